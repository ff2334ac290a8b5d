package tour

import (
	"math"
	"math/bits"
	"slices"
	"testing"

	"teamster/api"
)

// graphOf makes a graph of n nodes from pairs of nodes; the weights differ, as no tour hangs on them.
func graphOf(n int, pairs ...[2]int) api.Graph {
	g := api.Graph{N: n}
	for i, p := range pairs {
		g.Edges = append(g.Edges, api.Edge{A: p[0], B: p[1], W: int64(5 - i)})
	}
	return g
}

// allPairs: each two of n nodes, from the greatest to the least, every other one turned round.
func allPairs(n int) [][2]int {
	var pairs [][2]int
	for b := n - 1; b > 0; b-- {
		for a := b - 1; a >= 0; a-- {
			p := [2]int{a, b}
			if len(pairs)%2 == 1 {
				p = [2]int{b, a}
			}
			pairs = append(pairs, p)
		}
	}
	return pairs
}

// chosen takes of all pairs of n nodes those that the choice has.
func chosen(n int, choice uint) api.Graph {
	var pairs [][2]int
	for i, p := range allPairs(n) {
		if choice>>i&1 == 1 {
			pairs = append(pairs, p)
		}
	}
	return graphOf(n, pairs...)
}

// ring: a way through these nodes and back to the first.
func ring(nodes ...int) [][2]int {
	var pairs [][2]int
	for i, node := range nodes {
		pairs = append(pairs, [2]int{node, nodes[(i+1)%len(nodes)]})
	}
	return pairs
}

func rings(n int, all ...[][2]int) api.Graph {
	return graphOf(n, slices.Concat(all...)...)
}

// expect holds the tour of a graph against what it is to be; where there is to be none, nothing else is to be told.
func expect(t *testing.T, name string, g api.Graph, want []int, code api.Errno) {
	t.Helper()
	if got, err := Tour(g); err != code || !slices.Equal(got, want) {
		t.Errorf("%s: %v, %d, want %v, %d", name, got, err, want, code)
	}
}

// B1: graphs that have a tour, worked out by hand.
func TestByHand(t *testing.T) {
	for _, c := range []struct {
		name string
		g    api.Graph
		want []int
	}{
		{"the chapter's example", rings(3, ring(0, 1, 2)), []int{0, 1, 2, 0}},
		{"one node", api.Graph{N: 1}, []int{0}},
		{"no edge", api.Graph{N: 4}, []int{0}},
		{"no edge, most nodes", api.Graph{N: 10, Edges: []api.Edge{}}, []int{0}},
		{"nodes without edges ahead, between and behind", rings(8, ring(6, 4, 2)), []int{2, 4, 6, 2}},
		{"the greatest nodes", rings(10, ring(9, 8, 7)), []int{7, 8, 9, 7}},
		{"the lesser way round", rings(4, ring(0, 3, 1, 2)), []int{0, 2, 1, 3, 0}},
		{"all nodes in one ring", rings(10, ring(9, 8, 7, 6, 5, 4, 3, 2, 1, 0)), []int{0, 1, 2, 3, 4, 5, 6, 7, 8, 9, 0}},
		{"two rings at the first node", rings(5, ring(0, 3, 4), ring(0, 1, 2)), []int{0, 1, 2, 0, 3, 4, 0}},
		{"two rings at the first node, mixed", rings(5, ring(0, 2, 4), ring(0, 1, 3)), []int{0, 1, 3, 0, 2, 4, 0}},
		{"the least next node would leave a ring behind", rings(5, ring(0, 1, 2), ring(2, 3, 4)), []int{0, 1, 2, 3, 4, 2, 0}},
		{"a ring ahead of the way on", rings(5, ring(0, 1, 4), ring(1, 2, 3)), []int{0, 1, 2, 3, 1, 4, 0}},
		{"rings hung on rings", rings(7, ring(0, 5, 6), ring(6, 1, 2), ring(2, 3, 4)), []int{0, 5, 6, 1, 2, 3, 4, 2, 6, 0}},
		{"all edges of five", chosen(5, 1<<10-1), []int{0, 1, 2, 0, 3, 1, 4, 2, 3, 4, 0}},
	} {
		expect(t, c.name, c.g, c.want, api.OK)
	}
}

// B1: graphs that have no tour.
func TestNone(t *testing.T) {
	for _, c := range []struct {
		name string
		g    api.Graph
	}{
		{"no node", api.Graph{}},
		{"no node, an empty list", api.Graph{Edges: []api.Edge{}}},
		{"one edge", graphOf(2, [2]int{0, 1})},
		{"two edges in a row", graphOf(3, [2]int{0, 1}, [2]int{1, 2})},
		{"a way that does not come back", rings(5, ring(0, 1, 2), [][2]int{{2, 3}, {3, 4}})},
		{"two parts", rings(6, ring(0, 1, 2), ring(3, 4, 5))},
		{"two parts, one node in neither", rings(7, ring(1, 3, 5), ring(2, 4, 6))},
		{"three parts", rings(9, ring(0, 1, 2), ring(3, 4, 5), ring(6, 7, 8))},
		{"a ring, and an edge elsewhere", rings(5, ring(0, 1, 2), [][2]int{{3, 4}})},
		{"all edges of four", chosen(4, 1<<6-1)},
		{"all edges of ten", chosen(10, 1<<45-1)},
	} {
		expect(t, c.name, c.g, nil, api.ErrNone)
	}
}

// A1, P2: what is wrong with the graph is told ahead of its having no tour, and nothing else with it.
func TestWrongGraphs(t *testing.T) {
	for _, c := range []struct {
		name string
		g    api.Graph
		want api.Errno
	}{
		{"N -1", api.Graph{N: -1}, api.ErrLarge},
		{"N least", api.Graph{N: math.MinInt}, api.ErrLarge},
		{"N 11", api.Graph{N: api.MaxNodes + 1}, api.ErrLarge},
		{"N 11, a ring", rings(11, ring(0, 1, 2)), api.ErrLarge},
		{"N greatest", api.Graph{N: math.MaxInt}, api.ErrLarge},
		{"46 edges", api.Graph{N: 10, Edges: make([]api.Edge, api.MaxEdges+1)}, api.ErrLarge},
		{"no node, an edge", graphOf(0, [2]int{0, 1}), api.ErrArg},
		{"an end below", rings(3, ring(0, 1, -1)), api.ErrArg},
		{"an end above", rings(3, ring(0, 1, 3)), api.ErrArg},
		{"ends far off", graphOf(3, [2]int{math.MinInt, math.MaxInt}), api.ErrArg},
		{"an edge with one end", rings(3, ring(0, 1, 2), ring(1)), api.ErrForm},
		{"an edge there and back", rings(3, ring(0, 1)), api.ErrForm},
		{"a ring twice", rings(3, ring(0, 1, 2), ring(0, 1, 2)), api.ErrForm},
		{"too heavy", api.Graph{N: 2, Edges: []api.Edge{{A: 0, B: 1, W: api.MaxWeight + 1}}}, api.ErrRange},
		{"too light", api.Graph{N: 2, Edges: []api.Edge{{A: 0, B: 1, W: math.MinInt64}}}, api.ErrRange},
	} {
		expect(t, c.name, c.g, nil, c.want)
	}
}

// table says of each two nodes whether they have an edge.
func table(g api.Graph) (has [10][10]bool) {
	for _, e := range g.Edges {
		has[e.A][e.B], has[e.B][e.A] = true, true
	}
	return has
}

// firstByTrial tries all lists that go on from these nodes, the least ones first, until one is a tour.
func firstByTrial(has *[10][10]bool, nodes []int, edges int) []int {
	last := nodes[len(nodes)-1]
	if len(nodes) == edges+1 {
		if last == nodes[0] {
			return nodes
		}
		return nil
	}
	for next := range 10 {
		if !has[last][next] {
			continue
		}
		has[last][next], has[next][last] = false, false
		found := firstByTrial(has, append(slices.Clone(nodes), next), edges)
		has[last][next], has[next][last] = true, true
		if found != nil {
			return found
		}
	}
	return nil
}

// slowTour works the first tour out by trial from each node.
func slowTour(g api.Graph) []int {
	has := table(g)
	for node := range g.N {
		if found := firstByTrial(&has, []int{node}, len(g.Edges)); found != nil {
			return found
		}
	}
	return nil
}

func expectSlow(t *testing.T, g api.Graph) {
	t.Helper()
	want, code := slowTour(g), api.OK
	if want == nil {
		code = api.ErrNone
	}
	if got, err := Tour(g); err != code || !slices.Equal(got, want) {
		t.Errorf("%v: %v, %d, want %v, %d", g, got, err, want, code)
	}
}

// B1: all graphs of up to five nodes, those of six that have no more than nine edges, against trial.
func TestAgainstTrial(t *testing.T) {
	for n := range 6 {
		for choice := range uint(1) << len(allPairs(n)) {
			expectSlow(t, chosen(n, choice))
		}
	}
	for choice := range uint(1) << 15 {
		if bits.OnesCount(choice) <= 9 {
			expectSlow(t, chosen(6, choice))
		}
	}
}

// rest says whether the edges that are left can all be reached from a node.
func rest(has *[10][10]bool, from int) bool {
	reached := map[int]int{from: 1}
	for work := []int{from}; len(work) > 0; work = work[1:] {
		for next := range 10 {
			if has[work[0]][next] && reached[next] == 0 {
				reached[next] = 1
				work = append(work, next)
			}
		}
	}
	for node, row := range has {
		if reached[node] == 0 && slices.Contains(row[:], true) {
			return false
		}
	}
	return true
}

// stepwise works the first tour out another way, where all degrees are even: it takes the least step that leaves no edge behind.
func stepwise(g api.Graph) []int {
	has := table(g)
	node := slices.IndexFunc(has[:], func(row [10]bool) bool { return slices.Contains(row[:], true) })
	if node < 0 {
		return []int{0}
	}
	nodes := []int{node}
	for range g.Edges {
		next := 0
		for ; next < 10; next++ {
			if !has[node][next] {
				continue
			}
			has[node][next], has[next][node] = false, false
			if rest(&has, next) {
				break
			}
			has[node][next], has[next][node] = true, true
		}
		if next == 10 {
			return nil
		}
		nodes, node = append(nodes, next), next
	}
	return nodes
}

// evenGraph lays triangles over each other: where two have an edge in common it goes away, so that all degrees stay even.
func evenGraph(triangles, seed uint) api.Graph {
	choice := uint(0)
	index := map[[2]int]int{}
	for i, p := range allPairs(10) {
		index[[2]int{min(p[0], p[1]), max(p[0], p[1])}] = i
	}
	for range triangles {
		seed = seed*6364136223846793005 + 1442695040888963407
		a := int(seed >> 33 % 8)
		b := a + 1 + int(seed>>41)%(8-a)
		c := b + 1 + int(seed>>49)%(9-b)
		choice ^= 1<<index[[2]int{a, b}] ^ 1<<index[[2]int{b, c}] ^ 1<<index[[2]int{a, c}]
	}
	return chosen(10, choice)
}

// B1: a spread of graphs of ten nodes with even degrees, sparse and dense, in one part and in several.
func TestAgainstStepwise(t *testing.T) {
	tours, parted := 0, 0
	for seed := range uint(3000) {
		g := evenGraph(seed%12, seed)
		want := stepwise(g)
		if want == nil {
			parted++
			expect(t, "parted", g, nil, api.ErrNone)
			continue
		}
		tours++
		expect(t, "even", g, want, api.OK)
	}
	if tours < 1000 || parted < 50 {
		t.Errorf("a poor spread: %d tours, %d parted", tours, parted)
	}
}

// B1: a tour of nine nodes with all edges: the most nodes of which each has the same even number.
func TestAllEdgesOfNine(t *testing.T) {
	g := chosen(9, 1<<36-1)
	expect(t, "nine", g, stepwise(g), api.OK)
}

// P3: neither the list that is handed in nor what lies behind its length is changed or read, nor is an answer kept.
func TestMemory(t *testing.T) {
	whole := append(rings(3, ring(2, 0, 1)).Edges, api.Edge{A: 77, B: 77, W: math.MaxInt64})
	before := slices.Clone(whole)
	g := api.Graph{N: 3, Edges: whole[:3]}
	for range 2 {
		nodes, err := Tour(g)
		if want := []int{0, 1, 2, 0}; err != api.OK || !slices.Equal(nodes, want) {
			t.Errorf("got %v, %d, want %v", nodes, err, want)
		}
		for i := range nodes {
			nodes[i] = 99
		}
	}
	if !slices.Equal(whole, before) {
		t.Errorf("the edges became %v", whole)
	}
}
