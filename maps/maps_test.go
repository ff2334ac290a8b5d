package maps

import (
	"iter"
	"math"
	"slices"
	"testing"

	"teamster/api"
)

// graphOf makes a graph of n nodes from lists of pairs of nodes; the weights differ, as nothing hangs on them.
func graphOf(n int, all ...[][2]int) api.Graph {
	g := api.Graph{N: n}
	for i, p := range slices.Concat(all...) {
		g.Edges = append(g.Edges, api.Edge{A: p[0], B: p[1], W: int64(3 - i)})
	}
	return g
}

// upTo: the numbers from 0 on, ahead of count.
func upTo(count int) []int {
	list := make([]int, count)
	for i := range list {
		list[i] = i
	}
	return list
}

// row: a way through these nodes.
func row(nodes ...int) [][2]int {
	var pairs [][2]int
	for i := range len(nodes) - 1 {
		pairs = append(pairs, [2]int{nodes[i], nodes[i+1]})
	}
	return pairs
}

// ring: a way through these nodes and back to the first.
func ring(nodes ...int) [][2]int {
	return row(append(slices.Clone(nodes), nodes[0])...)
}

// between: an edge from each of the one to each of the other nodes.
func between(one, other []int) [][2]int {
	var pairs [][2]int
	for _, a := range one {
		for _, b := range other {
			pairs = append(pairs, [2]int{a, b})
		}
	}
	return pairs
}

// full: an edge between each two of these nodes, every other one turned round.
func full(nodes ...int) [][2]int {
	var pairs [][2]int
	for i, b := range nodes {
		for _, a := range nodes[:i] {
			p := [2]int{a, b}
			if len(pairs)%2 == 1 {
				p = [2]int{b, a}
			}
			pairs = append(pairs, p)
		}
	}
	return pairs
}

// chosen takes of all pairs of n nodes those that the choice has.
func chosen(n int, choice uint) api.Graph {
	var pairs [][2]int
	for i, p := range full(upTo(n)...) {
		if choice>>i&1 == 1 {
			pairs = append(pairs, p)
		}
	}
	return graphOf(n, pairs)
}

// rising: of each node its neighbours, rising.
func rising(g api.Graph) [][]int {
	round := make([][]int, g.N)
	for _, e := range g.Edges {
		round[e.A] = append(round[e.A], e.B)
		round[e.B] = append(round[e.B], e.A)
	}
	for _, list := range round {
		slices.Sort(list)
	}
	return round
}

// spread: a number that looks as if it came from nowhere, the same each time.
func spread(seed uint) uint {
	seed = (seed + 1) * 0x9E3779B97F4A7C15
	seed = (seed ^ seed>>30) * 0xBF58476D1CE4E5B9
	seed = (seed ^ seed>>27) * 0x94D049BB133111EB
	return seed ^ seed>>31
}

// shuffled: the list in some order.
func shuffled(list []int, seed uint) []int {
	mixed := slices.Clone(list)
	for i := range mixed {
		j := int(spread(seed*16+uint(i)) % uint(i+1))
		mixed[i], mixed[j] = mixed[j], mixed[i]
	}
	return mixed
}

// each does something with each list.
func each(round [][]int, do func(node int, list []int) []int) [][]int {
	other := make([][]int, len(round))
	for node, list := range round {
		other[node] = do(node, list)
	}
	return other
}

// turnedOn: each list begins some places further on.
func turnedOn(round [][]int, seed uint) [][]int {
	return each(round, func(node int, list []int) []int {
		place := int(spread(seed*16+uint(node)) % uint(len(list)+1))
		return slices.Concat(list[place:], list[:place])
	})
}

// turnedBack: each list the other way round.
func turnedBack(round [][]int) [][]int {
	return each(round, func(_ int, list []int) []int {
		list = slices.Clone(list)
		slices.Reverse(list)
		return list
	})
}

// anyWay: each list in some order.
func anyWay(g api.Graph, seed uint) [][]int {
	return each(rising(g), func(node int, list []int) []int { return shuffled(list, seed*16+uint(node)) })
}

// copied: lists that share nothing with these.
func copied(round [][]int) [][]int {
	return each(round, func(_ int, list []int) []int { return slices.Clone(list) })
}

// shifted: of n nodes each one's list goes by the same steps.
func shifted(n int, steps ...int) [][]int {
	return each(make([][]int, n), func(node int, _ []int) []int {
		var list []int
		for _, step := range steps {
			list = append(list, (node+step+n)%n)
		}
		return list
	})
}

// orders goes through all orders of a list behind its first so many.
func orders(list []int, fixed int) iter.Seq[[]int] {
	return func(yield func([]int) bool) {
		if fixed >= len(list)-1 {
			yield(list)
			return
		}
		for place := fixed; place < len(list); place++ {
			next := slices.Clone(list)
			next[fixed], next[place] = next[place], next[fixed]
			for order := range orders(next, fixed+1) {
				if !yield(order) {
					return
				}
			}
		}
	}
}

// turnings goes through all ways in which a graph's edges may come round its nodes, the first so many of each list being fixed.
func turnings(g api.Graph, fixed int) iter.Seq[[][]int] {
	round := rising(g)
	var lay func(node int, yield func([][]int) bool) bool
	lay = func(node int, yield func([][]int) bool) bool {
		if node == g.N {
			return yield(round)
		}
		before := round[node]
		defer func() { round[node] = before }()
		for order := range orders(before, fixed) {
			round[node] = order
			if !lay(node+1, yield) {
				return false
			}
		}
		return true
	}
	return func(yield func([][]int) bool) { lay(0, yield) }
}

// labels gives of each side, as it is come along, the same number as of all others of its round.
func labels(round [][]int) (label [10][10]int) {
	for at := range 100 {
		label[at/10][at%10] = at
	}
	for b, list := range round {
		for i, a := range list {
			one, other := label[a][b], label[b][list[(i+1)%len(list)]]
			for at := range 100 {
				if l := &label[at/10][at%10]; *l == other {
					*l = one
				}
			}
		}
	}
	return label
}

// facesByLabels: how many rounds there are, with one more for each empty list.
func facesByLabels(round [][]int) int {
	label := labels(round)
	var met [100]int
	faces := 0
	for a, list := range round {
		if len(list) == 0 {
			faces++
		}
		for _, b := range list {
			if met[label[a][b]]++; met[label[a][b]] == 1 {
				faces++
			}
		}
	}
	return faces
}

// chords makes each part one node, edge by edge: of each such node it gives the edges that are left, as they come round it, each twice.
func chords(g api.Graph, round [][]int) [][]int {
	edges := slices.Clone(g.Edges)
	lists := each(round, func(a int, list []int) []int {
		var places []int
		for _, b := range list {
			places = append(places, slices.IndexFunc(edges, func(e api.Edge) bool { return e.A == a && e.B == b || e.A == b && e.B == a }))
		}
		return places
	})
	for place := range edges {
		e := edges[place]
		if e.A == e.B {
			continue
		}
		one, other := lists[e.A], lists[e.B]
		i, j := slices.Index(one, place), slices.Index(other, place)
		lists[e.A], lists[e.B] = slices.Concat(one[:i], other[j+1:], other[:j], one[i+1:]), nil
		for k := range edges {
			if edges[k].A == e.B {
				edges[k].A = e.A
			}
			if edges[k].B == e.B {
				edges[k].B = e.A
			}
		}
	}
	return lists
}

// holesByChords: half of the rank, by odd and even, of the table that says which two edges cross, when each part is made one node.
func holesByChords(g api.Graph, round [][]int) int {
	var rows []uint64
	for _, list := range chords(g, round) {
		for i, one := range list {
			crossed := uint64(0)
			if j := i + 1 + slices.Index(list[i+1:], one); j > i {
				for _, other := range list[i+1 : j] {
					crossed ^= 1 << other
				}
				rows = append(rows, crossed)
			}
		}
	}
	rank := 0
	for i, row := range rows {
		if row == 0 {
			continue
		}
		rank++
		low := row & -row
		for k := range rows[i+1:] {
			if rows[i+1+k]&low != 0 {
				rows[i+1+k] ^= row
			}
		}
	}
	return rank / 2
}

// expect holds what is told of a map against what it is to be.
func expect(t *testing.T, name string, g api.Graph, round [][]int, faces, holes int) {
	t.Helper()
	if got := Check(g, round); got != api.OK {
		t.Errorf("Check of %s, %v, %v: %d", name, g, round, got)
	}
	if got, err := Faces(g, round); err != api.OK || got != faces {
		t.Errorf("Faces of %s, %v, %v: %d, %d, want %d", name, g, round, got, err, faces)
	}
	if got, err := Holes(g, round); err != api.OK || got != holes {
		t.Errorf("Holes of %s, %v, %v: %d, %d, want %d", name, g, round, got, err, holes)
	}
}

// expectWrong holds what is told of what is no map against the error that it is to be.
func expectWrong(t *testing.T, name string, g api.Graph, round [][]int, want api.Errno) {
	t.Helper()
	if got := Check(g, round); got != want {
		t.Errorf("Check of %s, %v, %v: %d, want %d", name, g, round, got, want)
	}
	if got, err := Faces(g, round); err != want || got != 0 {
		t.Errorf("Faces of %s, %v, %v: %d, %d, want %d", name, g, round, got, err, want)
	}
	if got, err := Holes(g, round); err != want || got != 0 {
		t.Errorf("Holes of %s, %v, %v: %d, %d, want %d", name, g, round, got, err, want)
	}
}

// expectTrial holds what is told of a map against trial, and gives how many holes it has.
func expectTrial(t *testing.T, name string, g api.Graph, round [][]int) int {
	t.Helper()
	holes := holesByChords(g, round)
	expect(t, name, g, round, facesByLabels(round), holes)
	return holes
}

type mapCase struct {
	name         string
	g            api.Graph
	round        [][]int
	faces, holes int
}

// flatCases: maps without a hole.
func flatCases() []mapCase {
	four := graphOf(4, full(upTo(4)...))
	star := graphOf(10, between([]int{4}, []int{0, 1, 2, 3, 5, 6, 7, 8, 9}))
	cube := graphOf(8, ring(0, 1, 2, 3), ring(4, 5, 6, 7), row(0, 4), row(1, 5), row(2, 6), row(3, 7))
	theta := graphOf(5, between([]int{0, 1}, []int{2, 3, 4}))
	return []mapCase{
		{"nothing", api.Graph{}, nil, 0, 0},
		{"nothing, empty lists", api.Graph{Edges: []api.Edge{}}, [][]int{}, 0, 0},
		{"one node", api.Graph{N: 1}, [][]int{{}}, 1, 0},
		{"one node, nil", api.Graph{N: 1}, [][]int{nil}, 1, 0},
		{"three nodes without an edge", api.Graph{N: 3}, [][]int{{}, nil, {}}, 3, 0},
		{"ten nodes without an edge", api.Graph{N: 10}, make([][]int, 10), 10, 0},
		{"one edge", graphOf(2, row(0, 1)), [][]int{{1}, {0}}, 1, 0},
		{"one edge, the other way round", graphOf(2, row(1, 0)), [][]int{{1}, {0}}, 1, 0},
		{"an edge beside nodes that have none", graphOf(5, row(3, 1)), [][]int{{}, {3}, {}, {1}, nil}, 4, 0},
		{"an edge of the first and the last node", graphOf(10, row(9, 0)), [][]int{{9}, nil, nil, nil, nil, nil, nil, nil, nil, {0}}, 9, 0},
		{"two edges", graphOf(4, row(0, 3), row(1, 2)), [][]int{{3}, {2}, {1}, {0}}, 2, 0},
		{"five edges", graphOf(10, row(0, 1), row(2, 3), row(4, 5), row(6, 7), row(8, 9)), [][]int{{1}, {0}, {3}, {2}, {5}, {4}, {7}, {6}, {9}, {8}}, 5, 0},
		{"a row", graphOf(4, row(2, 0, 3, 1)), [][]int{{3, 2}, {3}, {0}, {1, 0}}, 1, 0},
		{"a row of ten", graphOf(10, row(upTo(10)...)), rising(graphOf(10, row(upTo(10)...))), 1, 0},
		{"a star of ten", star, rising(star), 1, 0},
		{"a star of ten, in some order", star, anyWay(star, 77), 1, 0},
		{"the example of the document", graphOf(3, ring(0, 1, 2)), [][]int{{1, 2}, {0, 2}, {0, 1}}, 2, 0},
		{"the example, other lists", graphOf(3, ring(0, 1, 2)), [][]int{{2, 1}, {0, 2}, {1, 0}}, 2, 0},
		{"a ring beside a node", graphOf(4, ring(0, 1, 3)), [][]int{{1, 3}, {0, 3}, {}, {0, 1}}, 3, 0},
		{"a ring with an edge out", graphOf(4, ring(0, 1, 2), row(2, 3)), [][]int{{1, 2}, {0, 2}, {0, 1, 3}, {2}}, 2, 0},
		{"two rings", graphOf(6, ring(0, 2, 4), ring(1, 3, 5)), [][]int{{2, 4}, {3, 5}, {4, 0}, {5, 1}, {0, 2}, {1, 3}}, 4, 0},
		{"two rings with one node", graphOf(5, ring(0, 1, 2), ring(0, 3, 4)), [][]int{{1, 2, 3, 4}, {0, 2}, {1, 0}, {4, 0}, {0, 3}}, 3, 0},
		{"a ring in a ring, with one node", graphOf(5, ring(0, 1, 2), ring(0, 3, 4)), [][]int{{1, 3, 4, 2}, {0, 2}, {1, 0}, {4, 0}, {0, 3}}, 3, 0},
		{"a ring with a short cut", graphOf(4, ring(0, 1, 2, 3), row(0, 2)), [][]int{{1, 2, 3}, {0, 2}, {3, 0, 1}, {2, 0}}, 3, 0},
		{"three ways", theta, [][]int{{2, 3, 4}, {4, 3, 2}, {0, 1}, {0, 1}, {0, 1}}, 3, 0},
		{"four, all edges", four, [][]int{{1, 2, 3}, {0, 3, 2}, {0, 1, 3}, {0, 2, 1}}, 4, 0},
		{"four, all edges, begun elsewhere", four, [][]int{{3, 1, 2}, {2, 0, 3}, {1, 3, 0}, {0, 2, 1}}, 4, 0},
		{"four, all edges, the other way round", four, [][]int{{3, 2, 1}, {2, 3, 0}, {3, 1, 0}, {1, 2, 0}}, 4, 0},
		{"a cube", cube, [][]int{{1, 4, 3}, {2, 5, 0}, {3, 6, 1}, {0, 7, 2}, {7, 0, 5}, {4, 1, 6}, {5, 2, 7}, {6, 3, 4}}, 6, 0},
	}
}

// holedCases: maps with holes.
func holedCases() []mapCase {
	four, five, ten := graphOf(4, full(upTo(4)...)), graphOf(5, full(upTo(5)...)), graphOf(10, full(upTo(10)...))
	theta := graphOf(5, between([]int{0, 1}, []int{2, 3, 4}))
	houses := graphOf(6, between([]int{0, 1, 2}, []int{3, 4, 5}))
	twoFives := graphOf(10, full(0, 1, 2, 3, 4), full(5, 6, 7, 8, 9))
	grid := shifted(5, 1, 2, -1, -2)
	higher := each(grid, func(_ int, list []int) []int { return []int{list[0] + 5, list[1] + 5, list[2] + 5, list[3] + 5} })
	most := rising(ten)
	most[1], most[4], most[9] = []int{0, 2, 7, 3, 4, 5, 6, 8, 9}, []int{0, 1, 2, 8, 3, 5, 6, 7, 9}, []int{0, 1, 2, 3, 6, 4, 7, 8, 5}
	return []mapCase{
		{"three ways, a hole", theta, rising(theta), 1, 1},
		{"three ways, a hole, the other way round", theta, turnedBack(rising(theta)), 1, 1},
		{"a ring with a short cut, a hole", graphOf(4, ring(0, 1, 2, 3), row(0, 2)), [][]int{{1, 2, 3}, {0, 2}, {1, 0, 3}, {2, 0}}, 1, 1},
		{"four, all edges, a hole", four, rising(four), 2, 1},
		{"four, all edges, one list turned", four, [][]int{{1, 3, 2}, {0, 3, 2}, {0, 1, 3}, {0, 2, 1}}, 2, 1},
		{"four, all edges, a hole, nodes beside", graphOf(7, full(1, 2, 4, 5)), [][]int{{}, {2, 4, 5}, {1, 4, 5}, {}, {1, 2, 5}, {1, 2, 4}, {}}, 5, 1},
		{"five, all edges, one hole", five, grid, 5, 1},
		{"five, all edges, two holes", five, rising(five), 3, 2},
		{"five, all edges, three holes", five, [][]int{{1, 2, 4, 3}, {0, 2, 3, 4}, {1, 0, 3, 4}, {0, 1, 2, 4}, {0, 2, 1, 3}}, 1, 3},
		{"three and three", houses, rising(houses), 3, 1},
		{"three and three, two holes", houses, [][]int{{3, 4, 5}, {3, 4, 5}, {3, 5, 4}, {0, 1, 2}, {0, 1, 2}, {0, 1, 2}}, 1, 2},
		{"seven, all edges, one hole", graphOf(7, full(upTo(7)...)), shifted(7, 1, 3, 2, -1, -3, -2), 14, 1},
		{"ten, all edges", ten, rising(ten), 5, 16},
		{"ten, all edges, one face", ten, most, 1, 18},
		{"twice five, all edges", twoFives, slices.Concat(grid, higher), 10, 2},
		{"twice five, all edges, different holes", twoFives, slices.Concat(rising(five), higher), 8, 3},
		{"four with a hole, a ring, an edge and a node", graphOf(10, full(0, 1, 2, 3), ring(4, 5, 6), row(7, 9)),
			[][]int{{1, 2, 3}, {0, 2, 3}, {0, 1, 3}, {0, 1, 2}, {5, 6}, {6, 4}, {4, 5}, {9}, {}, {7}}, 6, 1},
	}
}

// P1, P2: maps that are worked out by hand.
func TestByHand(t *testing.T) {
	for _, c := range append(flatCases(), holedCases()...) {
		expect(t, c.name, c.g, c.round, c.faces, c.holes)
		expectTrial(t, c.name, c.g, c.round)
	}
}

// P2: rings of three to ten nodes have two faces, trees one, however they are turned.
func TestRingsAndTrees(t *testing.T) {
	for n := 3; n <= 10; n++ {
		for seed := range uint(20) {
			nodes := shuffled(upTo(n), seed)
			g := graphOf(n, ring(nodes...))
			expect(t, "a ring", g, anyWay(g, seed), 2, 0)
			tree := api.Graph{N: n}
			for i, node := range nodes[1:] {
				tree.Edges = append(tree.Edges, api.Edge{A: node, B: nodes[spread(seed*16+uint(i))%uint(i+1)]})
			}
			expect(t, "a tree", tree, anyWay(tree, seed), 1, 0)
		}
	}
}

// P2: of n nodes with all edges, the lists rising, one walk goes by steps of 1, and one by steps of d and of 1 - d, for each such two steps of the others.
// With some nodes on either side, the lists rising, each walk goes on by one on both sides.
func TestRising(t *testing.T) {
	for n := 3; n <= 10; n++ {
		g := graphOf(n, full(upTo(n)...))
		faces := 1 + (n-1)/2
		expect(t, "all edges", g, rising(g), faces, (2-n+len(g.Edges)-faces)/2)
	}
	for left := 1; left <= 5; left++ {
		for right := 1; right <= 5; right++ {
			g := graphOf(left+right, between(upTo(left), upTo(left + right)[left:]))
			common := left
			for left%common != 0 || right%common != 0 {
				common--
			}
			expect(t, "two sides", g, rising(g), common, (2-left-right+left*right-common)/2)
		}
	}
}

// P2: how many turnings have so many holes is known of some graphs.
func TestKnownCounts(t *testing.T) {
	for _, c := range []struct {
		name string
		g    api.Graph
		want [4]int
	}{
		{"four, all edges", graphOf(4, full(upTo(4)...)), [4]int{2, 14}},
		{"three and three", graphOf(6, between([]int{0, 1, 2}, []int{3, 4, 5})), [4]int{0, 40, 24}},
		{"a wheel", graphOf(5, ring(0, 1, 2, 3), between([]int{4}, upTo(4))), [4]int{2, 58, 36}},
		{"five, all edges", graphOf(5, full(upTo(5)...)), [4]int{0, 462, 4974, 2340}},
	} {
		var met [4]int
		for round := range turnings(c.g, 1) {
			holes, _ := Holes(c.g, round)
			met[holes]++
		}
		if met != c.want {
			t.Errorf("%s: %v, want %v", c.name, met, c.want)
		}
	}
}

// P1, P2: all graphs of up to four nodes, in all lists; all of five nodes, in all turnings; against trial.
func TestAllSmall(t *testing.T) {
	var met [4]int
	for n := range 6 {
		fixed := 0
		if n == 5 {
			fixed = 1
		}
		for choice := range uint(1) << (n * (n - 1) / 2) {
			g := chosen(n, choice)
			for round := range turnings(g, fixed) {
				met[expectTrial(t, "one of all", g, round)]++
			}
		}
	}
	if met[0] < 2000 || met[1] < 2000 || met[2] < 2000 || met[3] != 2340 {
		t.Errorf("a poor spread: %v", met)
	}
}

// P2: a spread of maps of six to ten nodes, with few edges and with many, against trial.
func TestScattered(t *testing.T) {
	var met [19]int
	for seed := range uint(4000) {
		n := 6 + int(seed%5)
		var pairs [][2]int
		for i, p := range full(upTo(n)...) {
			if spread(seed*64+uint(i))%8 < 1+seed/5%8 {
				pairs = append(pairs, p)
			}
		}
		g := graphOf(n, pairs)
		met[expectTrial(t, "one of many", g, anyWay(g, seed))]++
	}
	if met[0] < 100 || met[3] < 100 || met[9] < 20 || met[16] < 20 {
		t.Errorf("a poor spread: %v", met)
	}
}

// corner: the place in a node's list where an edge may come in.
type corner struct{ node, place int }

// corners of a node, each with a number that it has in common with all that a walk meets as well.
func corners(round [][]int, node int) map[corner]int {
	list := round[node]
	if len(list) == 0 {
		return map[corner]int{{node, 0}: -1 - node}
	}
	label, met := labels(round), map[corner]int{}
	for place := range list {
		before := list[(place+len(list)-1)%len(list)]
		met[corner{node, place}] = label[before][node]
	}
	return met
}

// linked says of each two of ten nodes whether edges lead from the one to the other.
func linked(round [][]int) (is [10][10]bool) {
	for a, list := range round {
		is[a][a] = true
		for _, b := range list {
			is[a][b] = true
		}
	}
	for c := range 10 {
		for a := range 10 {
			for b := range 10 {
				is[a][b] = is[a][b] || is[a][c] && is[c][b]
			}
		}
	}
	return is
}

// grow lays edges into a map of n nodes, so many where they can be. An edge between two corners of one walk makes two of it, any other makes one of two, with a hole
// where both were in one part. Of the corners those of one walk are taken where there are any, but for some.
func grow(n, count int, some, seed uint) mapCase {
	c := mapCase{name: "a grown one", g: api.Graph{N: n}, round: make([][]int, n), faces: n}
	pairs := full(upTo(n)...)
	for _, place := range shuffled(upTo(len(pairs)), seed)[:count] {
		p := pairs[place]
		one, other := corners(c.round, p[0]), corners(c.round, p[1])
		var best [2]corner
		split := false
		draw := spread(seed*64 + uint(place))
		for i := range len(one) * len(other) {
			pick := (i + int(draw>>8%1000)) % (len(one) * len(other))
			x, y := corner{p[0], pick % len(one)}, corner{p[1], pick / len(one)}
			if best, split = [2]corner{x, y}, one[x] == other[y]; split || draw%8 < some {
				break
			}
		}
		switch {
		case split:
			c.faces++
		case linked(c.round)[p[0]][p[1]]:
			c.faces, c.holes = c.faces-1, c.holes+1
		default:
			c.faces--
		}
		for i, at := range best {
			c.round[at.node] = slices.Insert(c.round[at.node], at.place, p[1-i])
		}
		c.g.Edges = append(c.g.Edges, api.Edge{A: p[0], B: p[1]})
	}
	return c
}

// P2: maps that are grown edge by edge, many of them with few holes, whose faces and holes are kept count of.
func TestGrown(t *testing.T) {
	flat, many := 0, 0
	var met [19]int
	for seed := range uint(1500) {
		n := 5 + int(seed%6)
		c := grow(n, int(spread(seed)%uint(n*(n-1)/2+1)), seed/6%9, seed)
		if seed%10 == 7 {
			c = grow(10, api.MaxEdges, seed/10%3, seed)
		}
		expect(t, c.name, c.g, c.round, c.faces, c.holes)
		expectTrial(t, c.name, c.g, c.round)
		met[c.holes]++
		if c.holes == 0 && len(c.g.Edges) > n {
			flat++
		}
		many = max(many, c.faces)
	}
	if flat < 60 || met[1] < 60 || met[2] < 60 || met[18] < 1 || many < 17 {
		t.Errorf("a poor spread: %d, %d, %v", flat, many, met)
	}
}

// P2: where lists begin does not matter, nor whether all are told the other way round; nor how edges are ordered, turned and weighed.
func TestTheSameMap(t *testing.T) {
	for seed := range uint(300) {
		c := grow(10, int(seed%46), seed%9, seed+7000)
		expect(t, "turned on", c.g, turnedOn(c.round, seed), c.faces, c.holes)
		expect(t, "turned back", c.g, turnedBack(c.round), c.faces, c.holes)
		expect(t, "turned back and on", c.g, turnedOn(turnedBack(c.round), seed+1), c.faces, c.holes)
		mixed := api.Graph{N: c.g.N}
		for _, place := range shuffled(upTo(len(c.g.Edges)), seed) {
			e := c.g.Edges[place]
			draw := spread(seed*64 + uint(place))
			if draw%2 == 0 {
				e.A, e.B = e.B, e.A
			}
			e.W = int64(draw%(2*api.MaxWeight+1)) - api.MaxWeight
			mixed.Edges = append(mixed.Edges, e)
		}
		expect(t, "other edges", mixed, c.round, c.faces, c.holes)
	}
}

// P2: what numbers the nodes have does not matter.
func TestOtherNumbers(t *testing.T) {
	for seed := range uint(300) {
		c := grow(10, int(seed%46), seed%9, seed+9000)
		name := shuffled(upTo(10), seed)
		other, round := api.Graph{N: 10}, make([][]int, 10)
		for _, e := range c.g.Edges {
			other.Edges = append(other.Edges, api.Edge{A: name[e.A], B: name[e.B]})
		}
		for node, list := range c.round {
			for _, next := range list {
				round[name[node]] = append(round[name[node]], name[next])
			}
		}
		expect(t, "other numbers", other, round, c.faces, c.holes)
	}
}

// isMap says whether lists are of just the neighbours.
func isMap(g api.Graph, round [][]int) bool {
	return slices.EqualFunc(rising(g), round, func(want, list []int) bool {
		list = slices.Clone(list)
		slices.Sort(list)
		return slices.Equal(want, list)
	})
}

// expectMap holds what is told of lists, which may be those of a map, against trial.
func expectMap(t *testing.T, name string, g api.Graph, round [][]int) bool {
	t.Helper()
	is := isMap(g, round)
	if is {
		expectTrial(t, name, g, round)
	} else {
		expectWrong(t, name, g, round, api.ErrForm)
	}
	return is
}

// lists goes through all lists of up to so many numbers from low on, ahead of high.
func lists(most, low, high int) [][]int {
	all := [][]int{nil}
	for i := 0; len(all[i]) < most; i++ {
		for number := low; number < high; number++ {
			all = append(all, append(slices.Clone(all[i]), number))
		}
	}
	return all
}

// P1: all lists of a few numbers, for all graphs of two and three nodes; all lists of one node, the others' being right, for all graphs of four nodes.
func TestAllLists(t *testing.T) {
	maps, two, three, four := 0, lists(3, -1, 3), lists(2, 0, 4), lists(4, -1, 5)
	count := func(is bool) {
		if is {
			maps++
		}
	}
	for choice := range uint(2) {
		for _, one := range two {
			for _, other := range two {
				count(expectMap(t, "of two", chosen(2, choice), [][]int{one, other}))
			}
		}
	}
	for choice := range uint(8) {
		for i := range len(three) * len(three) * len(three) {
			count(expectMap(t, "of three", chosen(3, choice), [][]int{three[i%len(three)], three[i/len(three)%len(three)], three[i/len(three)/len(three)]}))
		}
	}
	// Of two nodes each graph is one map; of three nodes 1, 3 times 1, 3 times 2 and 8.
	if maps != 2+18 {
		t.Errorf("%d maps of two and three nodes", maps)
	}
	for choice := range uint(64) {
		g := chosen(4, choice)
		for node := range 4 {
			round := rising(g)
			for _, list := range four {
				round[node] = list
				expectMap(t, "of four", g, round)
			}
		}
	}
}

// P1: not as many lists as nodes.
func TestHowManyLists(t *testing.T) {
	for n := range 11 {
		for _, g := range []api.Graph{{N: n}, graphOf(n, row(upTo(n)...)), graphOf(n, full(upTo(n)...))} {
			round := append(rising(g), make([][]int, 30)...)
			for count := range round {
				if count != n {
					expectWrong(t, "other lists", g, round[:count], api.ErrForm)
				}
			}
			expectWrong(t, "nil", graphOf(max(n, 1), full(upTo(n)...)), nil, api.ErrForm)
			expectWrong(t, "one more, of no neighbours", g, append(rising(g), []int{n}), api.ErrForm)
			expectWrong(t, "one more, of the first ones", g, append(rising(g), upTo(n)), api.ErrForm)
		}
	}
}

// P1: lists that are wrong in one place, at each node and each place, of few neighbours and of many.
func TestWrongLists(t *testing.T) {
	for _, c := range append(flatCases(), append(holedCases(), grow(10, 20, 4, 1), grow(10, 33, 1, 2))...) {
		for node, list := range c.round {
			spoil := func(name string, other ...int) {
				t.Helper()
				round := copied(c.round)
				round[node] = other
				expectWrong(t, name, c.g, round, api.ErrForm)
			}
			for place, was := range list {
				without := slices.Delete(slices.Clone(list), place, place+1)
				spoil("one lacks", without...)
				for _, number := range []int{-1, c.g.N, node, -was - 1, was + 32, was + 64, was - 64, was + 1<<32, was - 1<<32, 31, 32, 63, 64, math.MinInt, math.MaxInt, was + math.MinInt} {
					spoil("one is wrong", slices.Insert(slices.Clone(without), place, number)...)
					spoil("one too many", slices.Insert(slices.Clone(list), place, number)...)
				}
				for other := range c.g.N {
					if other != was {
						spoil("one is another one", slices.Insert(slices.Clone(without), place, other)...)
					}
					spoil("one more", slices.Insert(slices.Clone(list), place, other)...)
				}
				spoil("all twice", slices.Concat(list, list)...)
				spoil("none", []int{}...)
			}
			spoil("itself", append(slices.Clone(list), node)...)
			spoil("no node", append(slices.Clone(list), c.g.N)...)
			spoil("below", append(slices.Clone(list), -1)...)
		}
	}
}

// P1: lists that are a map, but of another graph.
func TestAnotherGraphsLists(t *testing.T) {
	for seed := range uint(200) {
		c := grow(10, 2+int(seed%43), seed%9, seed+3000)
		fewer := api.Graph{N: 10, Edges: c.g.Edges[:len(c.g.Edges)-1]}
		expectWrong(t, "an edge more", fewer, c.round, api.ErrForm)
		expectWrong(t, "an edge less", c.g, anyWay(fewer, seed), api.ErrForm)
		expectWrong(t, "a node less", c.g, c.round[:9], api.ErrForm)
		a, b := int(seed%10), int((seed+1+seed/10%9)%10)
		round := copied(c.round)
		round[a], round[b] = round[b], round[a]
		expectMap(t, "two lists changed", c.g, round)
	}
}

// wrongGraphs: graphs in which something is wrong, each with its error.
func wrongGraphs() []struct {
	name string
	g    api.Graph
	want api.Errno
} {
	heavy := func(n int, w int64, pairs ...[2]int) api.Graph {
		g := graphOf(n, row(0, 1), pairs)
		g.Edges[0].W = w
		return g
	}
	return []struct {
		name string
		g    api.Graph
		want api.Errno
	}{
		{"N -1", api.Graph{N: -1}, api.ErrLarge},
		{"N least", api.Graph{N: math.MinInt}, api.ErrLarge},
		{"N 11", api.Graph{N: api.MaxNodes + 1}, api.ErrLarge},
		{"N 11, a ring", graphOf(11, ring(0, 1, 2)), api.ErrLarge},
		{"N 11, a wrong edge", graphOf(11, row(3, 3)), api.ErrLarge},
		{"N 32", api.Graph{N: 32}, api.ErrLarge},
		{"N 2 to the power of 32", api.Graph{N: 1 << 32}, api.ErrLarge},
		{"N greatest", api.Graph{N: math.MaxInt}, api.ErrLarge},
		{"46 edges", api.Graph{N: 10, Edges: make([]api.Edge, api.MaxEdges+1)}, api.ErrLarge},
		{"46 edges, one of them twice", graphOf(10, full(upTo(10)...), row(0, 1)), api.ErrLarge},
		{"46 edges, no node", api.Graph{Edges: make([]api.Edge, api.MaxEdges+1)}, api.ErrLarge},
		{"no node, an edge", graphOf(0, row(0, 1)), api.ErrArg},
		{"an end below", graphOf(3, ring(0, 1, -1)), api.ErrArg},
		{"an end above", graphOf(3, ring(0, 1, 3)), api.ErrArg},
		{"ends far off", graphOf(3, row(math.MinInt, math.MaxInt)), api.ErrArg},
		{"an end too far to be told", graphOf(3, row(0, 1<<32+1)), api.ErrArg},
		{"no node has an edge with itself", graphOf(3, row(5, 5)), api.ErrArg},
		{"an edge with one end", graphOf(3, row(0, 1, 2, 2)), api.ErrForm},
		{"an edge there and back", graphOf(3, ring(0, 1)), api.ErrForm},
		{"a ring twice", graphOf(3, ring(0, 1, 2), ring(0, 1, 2)), api.ErrForm},
		{"too heavy", heavy(2, api.MaxWeight+1), api.ErrRange},
		{"too light", heavy(2, -api.MaxWeight-1), api.ErrRange},
		{"far too heavy", heavy(2, math.MaxInt64), api.ErrRange},
		{"far too light", heavy(2, math.MinInt64), api.ErrRange},
		{"a ring, too heavy", heavy(3, api.MaxWeight+1, row(1, 2, 0)...), api.ErrRange},
		{"too heavy ahead of no node", heavy(3, math.MaxInt64, [2]int{0, 3}), api.ErrRange},
		{"too light ahead of one end", heavy(3, math.MinInt64, [2]int{2, 2}), api.ErrRange},
		{"no node ahead of one end", graphOf(3, row(0, 3), row(1, 1)), api.ErrArg},
		{"one end ahead of no node", graphOf(3, row(1, 1), row(0, 3)), api.ErrForm},
		{"an edge twice ahead of no node", graphOf(3, row(1, 0, 1, 3)), api.ErrForm},
	}
}

// A1, P1, P2 of the document: the graph's error is told first, whatever the lists are, and nothing else with it.
func TestWrongGraphs(t *testing.T) {
	for _, c := range wrongGraphs() {
		for name, round := range map[string][][]int{
			"no lists":           nil,
			"empty lists":        make([][]int, 3),
			"lists of a ring":    {{1, 2}, {0, 2}, {0, 1}},
			"lists of an edge":   {{1}, {0}},
			"lists of one end":   {{1}, {0, 2}, {1, 2}},
			"lists of no nodes":  {{-1, 1 << 40}, {99}},
			"far too many lists": make([][]int, 1000),
			"as many lists":      make([][]int, min(max(c.g.N, 0), 100)),
		} {
			expectWrong(t, name+" of "+c.name, c.g, round, c.want)
		}
	}
}

// P1 of the document: the greatest weights are no error, and change nothing.
func TestWeights(t *testing.T) {
	for _, w := range []int64{-api.MaxWeight, -1, 0, 1, api.MaxWeight} {
		g := graphOf(3, ring(0, 1, 2))
		g.Edges[0].W, g.Edges[1].W, g.Edges[2].W = w, -w, w
		expect(t, "the example, with weights", g, [][]int{{1, 2}, {0, 2}, {0, 1}}, 2, 0)
	}
}

// P3 of the document: what is handed in is neither changed nor read behind its length.
func TestArgumentsAreLeftAlone(t *testing.T) {
	edges := append(graphOf(4, full(upTo(4)...)).Edges, api.Edge{A: 7, B: 7, W: math.MaxInt64})
	whole := [][]int{{3, 1, 2, 99}, {2, 0, 3, -5}, {1, 3, 0, 0}, {0, 2, 1, 3}, {4}, nil}
	var cut [][]int
	for _, list := range whole[:4] {
		cut = append(cut, list[:3])
	}
	cut = append(cut, whole[4:]...)
	edgesBefore, wholeBefore, cutBefore := slices.Clone(edges), copied(whole), copied(cut)
	small := [][]int{whole[4][:0], cut[5]}
	for range 2 {
		expect(t, "a piece of it", api.Graph{N: 4, Edges: edges[:6]}, cut[:4], 4, 0)
		expect(t, "none of it", api.Graph{Edges: edges[:0]}, cut[:0], 0, 0)
		expect(t, "empty pieces", api.Graph{N: 2, Edges: edges[:0]}, small, 2, 0)
		expectWrong(t, "all lists", api.Graph{N: 4, Edges: edges[:6]}, cut, api.ErrForm)
		expectWrong(t, "whole lists", api.Graph{N: 4, Edges: edges[:6]}, whole[:4], api.ErrForm)
		expectWrong(t, "all edges", api.Graph{N: 4, Edges: edges}, cut[:4], api.ErrArg)
	}
	if !slices.Equal(edges, edgesBefore) || !slices.EqualFunc(whole, wholeBefore, slices.Equal[[]int]) || !slices.EqualFunc(cut, cutBefore, slices.Equal[[]int]) {
		t.Errorf("they became %v, %v, %v", edges, whole, cut)
	}
}

// P3 of the document: lists may share memory with one another; what was asked before is not kept.
func TestNothingIsKept(t *testing.T) {
	shared := upTo(10)
	star := graphOf(4, between([]int{3}, upTo(3)))
	other := graphOf(3, ring(0, 1, 2))
	for range 3 {
		expect(t, "lists that share", star, [][]int{shared[3:4], shared[3:4], shared[3:4], shared[:3]}, 1, 0)
		expect(t, "lists that share, of a ring", other, [][]int{shared[1:3], {2, 0}, shared[:2]}, 2, 0)
		expectWrong(t, "a wrong one between", other, [][]int{shared[1:3], shared[1:3], shared[:2]}, api.ErrForm)
		g := graphOf(4, full(upTo(4)...))
		round := rising(g)
		expect(t, "before", g, round, 2, 1)
		round[1][1], round[1][2] = round[1][2], round[1][1]
		round[3][1], round[3][2] = round[3][2], round[3][1]
		expect(t, "behind", g, round, facesByLabels(round), holesByChords(g, round))
	}
	if !slices.Equal(shared, upTo(10)) {
		t.Errorf("the shared ones became %v", shared)
	}
}
