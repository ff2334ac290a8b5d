package sides

import (
	"math"
	"slices"
	"testing"

	"teamster/api"
)

// graphOf makes a graph of n nodes from pairs of nodes; the weights differ, as nothing hangs on them.
func graphOf(n int, pairs ...[2]int) api.Graph {
	g := api.Graph{N: n}
	for i, p := range pairs {
		g.Edges = append(g.Edges, api.Edge{A: p[0], B: p[1], W: int64(3 - i)})
	}
	return g
}

// allPairs: each two of n nodes, every other one turned round.
func allPairs(n int) [][2]int {
	var pairs [][2]int
	for b := range n {
		for a := range b {
			p := [2]int{a, b}
			if len(pairs)%2 == 1 {
				p = [2]int{b, a}
			}
			pairs = append(pairs, p)
		}
	}
	return pairs
}

// chosen takes of all pairs of n nodes those that the choice has.
func chosen(n int, choice uint) api.Graph {
	var pairs [][2]int
	for i, p := range allPairs(n) {
		if choice>>i&1 == 1 {
			pairs = append(pairs, p)
		}
	}
	return graphOf(n, pairs...)
}

// row: a way through these nodes.
func row(nodes ...int) [][2]int {
	var pairs [][2]int
	for i := range len(nodes) - 1 {
		pairs = append(pairs, [2]int{nodes[i], nodes[i+1]})
	}
	return pairs
}

// ring: a way through these nodes and back to the first.
func ring(nodes ...int) [][2]int {
	return row(append(slices.Clone(nodes), nodes[0])...)
}

func laid(n int, all ...[][2]int) api.Graph {
	return graphOf(n, slices.Concat(all...)...)
}

// spread: a number that looks as if it came from nowhere, the same each time.
func spread(seed uint) uint {
	seed = (seed + 1) * 0x9E3779B97F4A7C15
	seed = (seed ^ seed>>30) * 0xBF58476D1CE4E5B9
	seed = (seed ^ seed>>27) * 0x94D049BB133111EB
	return seed ^ seed>>31
}

// shuffled: the numbers below n in some order.
func shuffled(n int, seed uint) []int {
	list := make([]int, n)
	for i := range list {
		j := int(spread(seed*16+uint(i)) % uint(i+1))
		list[i], list[j] = list[j], i
	}
	return list
}

// wound gives each of ten nodes a place on a ring of so many, and takes some of the edges between those whose places are next to each other:
// no odd ring of it is shorter, and of those that are as short there are often several.
func wound(length int, seed uint) api.Graph {
	place := shuffled(10, seed)
	var pairs [][2]int
	for i, p := range allPairs(10) {
		step := (place[p[0]]%length - place[p[1]]%length + length) % length
		if (step == 1 || step == length-1) && spread(seed*64+uint(i))%8 < 5+seed%4 {
			pairs = append(pairs, p)
		}
	}
	return graphOf(10, pairs...)
}

// table says of each two nodes whether they have an edge.
func table(g api.Graph) (has [10][10]bool) {
	for _, e := range g.Edges {
		has[e.A][e.B], has[e.B][e.A] = true, true
	}
	return has
}

// expectSides holds the sides of a graph against what they are to be; no list: there are to be none, and nothing else told.
func expectSides(t *testing.T, name string, g api.Graph, want []int) {
	t.Helper()
	code := api.OK
	if want == nil {
		code = api.ErrNone
	}
	if got, err := Sides(g); err != code || !slices.Equal(got, want) {
		t.Errorf("Sides of %s, %v: %v, %d, want %v, %d", name, g, got, err, want, code)
	}
}

// expectRing holds the ring of a graph against what it is to be; no list: there is to be none, and nothing else told.
func expectRing(t *testing.T, name string, g api.Graph, want []int) {
	t.Helper()
	code := api.OK
	if want == nil {
		code = api.ErrNone
	}
	if got, err := Ring(g); err != code || !slices.Equal(got, want) {
		t.Errorf("Ring of %s, %v: %v, %d, want %v, %d", name, g, got, err, want, code)
	}
}

// D1: graphs that have sides, worked out by hand; none of them has an odd ring.
func TestSidesByHand(t *testing.T) {
	for _, c := range []struct {
		name string
		g    api.Graph
		want []int
	}{
		{"nothing", api.Graph{}, []int{}},
		{"nothing, an empty list", api.Graph{Edges: []api.Edge{}}, []int{}},
		{"one node", api.Graph{N: 1}, []int{0}},
		{"ten nodes", api.Graph{N: 10}, make([]int, 10)},
		{"one edge", laid(2, row(0, 1)), []int{0, 1}},
		{"one edge, turned round", laid(2, row(1, 0)), []int{0, 1}},
		{"two edges of all three", laid(3, row(0, 1, 2)), []int{0, 1, 0}},
		{"the middle is the greatest", laid(3, row(0, 2, 1)), []int{0, 0, 1}},
		{"the middle is the least", laid(3, row(2, 0, 1)), []int{0, 1, 1}},
		{"a part each begins with 0", laid(6, row(5, 1), row(4, 2)), []int{0, 0, 0, 0, 1, 1}},
		{"parts in one another", laid(7, row(6, 1, 4), row(2, 5, 3)), []int{0, 0, 0, 0, 1, 1, 1}},
		{"a ring of four", laid(4, ring(0, 1, 2, 3)), []int{0, 1, 0, 1}},
		{"a ring of four, mixed", laid(4, ring(0, 1, 3, 2)), []int{0, 1, 1, 0}},
		{"a ring of ten", laid(10, ring(9, 8, 7, 6, 5, 4, 3, 2, 1, 0)), []int{0, 1, 0, 1, 0, 1, 0, 1, 0, 1}},
		{"a row of ten", laid(10, row(0, 2, 4, 6, 8, 1, 3, 5, 7, 9)), []int{0, 1, 1, 0, 0, 1, 1, 0, 0, 1}},
		{"a star", laid(5, row(4, 0), row(4, 1), row(2, 4), row(3, 4)), []int{0, 0, 0, 0, 1}},
	} {
		expectSides(t, c.name, c.g, c.want)
		expectRing(t, c.name, c.g, nil)
	}
}

// D1: graphs that have an odd ring, worked out by hand; none of them has sides.
func TestRingByHand(t *testing.T) {
	for _, c := range []struct {
		name string
		g    api.Graph
		want []int
	}{
		{"the chapter's example", laid(3, ring(0, 1, 2)), []int{0, 1, 2}},
		{"the other way round", laid(3, ring(2, 1, 0)), []int{0, 1, 2}},
		{"the greatest nodes", laid(10, ring(9, 7, 8)), []int{7, 8, 9}},
		{"a ring of five, the lesser way round", laid(5, ring(0, 4, 1, 3, 2)), []int{0, 2, 3, 1, 4}},
		{"a ring of seven", laid(8, ring(7, 6, 5, 4, 3, 2, 1)), []int{1, 2, 3, 4, 5, 6, 7}},
		{"a ring of nine", laid(10, ring(9, 1, 8, 2, 7, 3, 6, 4, 5)), []int{1, 8, 2, 7, 3, 6, 4, 5, 9}},
		{"three ahead of five, of greater nodes", laid(8, ring(0, 1, 2, 3, 4), ring(5, 6, 7)), []int{5, 6, 7}},
		{"five ahead of seven, of greater nodes", laid(10, ring(0, 1, 2, 3, 4, 5, 6), row(6, 7, 8, 9, 5)), []int{5, 6, 7, 8, 9}},
		{"an even ring ahead", laid(7, ring(0, 1, 2, 3), ring(4, 5, 6)), []int{4, 5, 6}},
		{"two of three, the lesser first node", laid(6, ring(5, 4, 1), ring(0, 2, 3)), []int{0, 2, 3}},
		{"two of three, the lesser second node", laid(5, ring(0, 4, 1), ring(0, 3, 2)), []int{0, 1, 4}},
		{"two of three, the lesser third node", laid(4, ring(0, 1, 3), row(0, 2, 1)), []int{0, 1, 2}},
		{"a lesser node with an edge, but in no ring", laid(6, row(0, 1, 3), ring(3, 4, 5)), []int{3, 4, 5}},
		{"the least neighbour leads nowhere", laid(7, row(0, 1), ring(0, 2, 4, 3, 6)), []int{0, 2, 4, 3, 6}},
		{"a part without, a part with", laid(6, row(0, 1), ring(2, 4, 5)), []int{2, 4, 5}},
		{"all edges of ten", chosen(10, 1<<45-1), []int{0, 1, 2}},
	} {
		expectRing(t, c.name, c.g, c.want)
		expectSides(t, c.name, c.g, nil)
	}
}

// A1, P2: each call tells first what is wrong with the graph, and nothing else with it.
func TestWrongGraphs(t *testing.T) {
	for _, c := range []struct {
		name string
		g    api.Graph
		want api.Errno
	}{
		{"N -1", api.Graph{N: -1}, api.ErrLarge},
		{"N least", api.Graph{N: math.MinInt}, api.ErrLarge},
		{"N 11", api.Graph{N: api.MaxNodes + 1}, api.ErrLarge},
		{"N 11, a ring", laid(11, ring(0, 1, 2)), api.ErrLarge},
		{"N greatest", api.Graph{N: math.MaxInt}, api.ErrLarge},
		{"46 edges", api.Graph{N: 10, Edges: make([]api.Edge, api.MaxEdges+1)}, api.ErrLarge},
		{"no node, an edge", laid(0, row(0, 1)), api.ErrArg},
		{"an end below", laid(3, ring(0, 1, -1)), api.ErrArg},
		{"an end above", laid(3, ring(0, 1, 3)), api.ErrArg},
		{"ends far off", laid(3, row(math.MinInt, math.MaxInt)), api.ErrArg},
		{"an edge with one end", laid(3, ring(0, 1, 2), row(1, 1)), api.ErrForm},
		{"an edge there and back", laid(3, ring(0, 1)), api.ErrForm},
		{"a ring twice", laid(3, ring(0, 1, 2), ring(0, 1, 2)), api.ErrForm},
		{"too heavy", api.Graph{N: 2, Edges: []api.Edge{{A: 0, B: 1, W: api.MaxWeight + 1}}}, api.ErrRange},
		{"too light", api.Graph{N: 2, Edges: []api.Edge{{A: 0, B: 1, W: math.MinInt64}}}, api.ErrRange},
		{"a ring, too heavy", api.Graph{N: 3, Edges: []api.Edge{{A: 0, B: 1}, {A: 1, B: 2}, {A: 2, B: 0, W: math.MaxInt64}}}, api.ErrRange},
	} {
		if got, err := Sides(c.g); err != c.want || len(got) != 0 {
			t.Errorf("Sides of %s: %v, %d, want %d", c.name, got, err, c.want)
		}
		if got, err := Ring(c.g); err != c.want || len(got) != 0 {
			t.Errorf("Ring of %s: %v, %d, want %d", c.name, got, err, c.want)
		}
	}
}

// leastNodes gives of each node the least node that it is linked with.
func leastNodes(g api.Graph) []int {
	least := make([]int, g.N)
	for node := range least {
		least[node] = node
	}
	for range g.N {
		for _, e := range g.Edges {
			low := min(least[e.A], least[e.B])
			least[e.A], least[e.B] = low, low
		}
	}
	return least
}

// sidesByTrial tries all words of nodes as those with 1; nil, if none will do.
func sidesByTrial(t *testing.T, g api.Graph) []int {
	var found []int
	least := leastNodes(g)
	for word := range 1 << g.N {
		side := make([]int, g.N)
		for node := range side {
			side[node] = word >> node & 1
		}
		clash := func(e api.Edge) bool { return side[e.A] == side[e.B] }
		begins := func(first int) bool { return side[first] == 1 }
		if slices.ContainsFunc(g.Edges, clash) || slices.ContainsFunc(least, begins) {
			continue
		}
		if found != nil {
			t.Errorf("%v: two ways to give sides, %v and %v", g, found, side)
		}
		found = side
	}
	return found
}

// ringByTrial tries all lists of so many nodes that go on from these, the least ones first, until one is a ring.
func ringByTrial(has *[10][10]bool, nodes []int, length int) []int {
	if len(nodes) == length {
		if has[nodes[length-1]][nodes[0]] {
			return nodes
		}
		return nil
	}
	for next := range 10 {
		if len(nodes) > 0 && !has[nodes[len(nodes)-1]][next] || slices.Contains(nodes, next) {
			continue
		}
		if found := ringByTrial(has, append(slices.Clone(nodes), next), length); found != nil {
			return found
		}
	}
	return nil
}

// expectTrial holds sides and ring of a graph against trial, and gives how many nodes the ring has.
func expectTrial(t *testing.T, g api.Graph) int {
	t.Helper()
	expectSides(t, "one of many", g, sidesByTrial(t, g))
	has := table(g)
	for length := 3; length <= g.N; length += 2 {
		if found := ringByTrial(&has, nil, length); found != nil {
			expectRing(t, "one of many", g, found)
			return length
		}
	}
	expectRing(t, "one of many", g, nil)
	return 0
}

// D1: all graphs of up to six nodes against trial.
func TestAllSmall(t *testing.T) {
	for n := range 7 {
		for choice := range uint(1) << len(allPairs(n)) {
			expectTrial(t, chosen(n, choice))
		}
	}
}

// D1: a spread of graphs of ten nodes, with odd rings of each length and with none, against trial.
func TestAgainstTrial(t *testing.T) {
	met := [10]int{}
	for seed := range uint(200) {
		met[expectTrial(t, chosen(10, spread(seed)&spread(seed+1000)&spread(seed+2000)))]++
		for length := 2; length < 10; length++ {
			met[expectTrial(t, wound(length, seed))]++
		}
	}
	for _, length := range []int{0, 3, 5, 7, 9} {
		if met[length] < 50 {
			t.Errorf("a poor spread: %d rings of %d", met[length], length)
		}
	}
}

// D1: just one of the two has an answer.
func TestSidesOrRing(t *testing.T) {
	for seed := range uint(5000) {
		g := chosen(10, spread(seed)&spread(seed+5000)&spread(seed+10000))
		_, one := Sides(g)
		_, other := Ring(g)
		if one == other || one != api.OK && one != api.ErrNone || other != api.OK && other != api.ErrNone {
			t.Errorf("%v: Sides %d, Ring %d", g, one, other)
		}
	}
}

// P3: neither the list that is handed in nor what lies behind its length is changed or read, nor is an answer kept.
func TestMemory(t *testing.T) {
	whole := append(laid(3, ring(2, 0, 1)).Edges, api.Edge{A: 77, B: 77, W: math.MaxInt64})
	before := slices.Clone(whole)
	for range 2 {
		nodes, err := Ring(api.Graph{N: 3, Edges: whole[:3]})
		if want := []int{0, 1, 2}; err != api.OK || !slices.Equal(nodes, want) {
			t.Errorf("Ring: %v, %d, want %v", nodes, err, want)
		}
		side, err := Sides(api.Graph{N: 3, Edges: whole[:2]})
		if want := []int{0, 1, 1}; err != api.OK || !slices.Equal(side, want) {
			t.Errorf("Sides: %v, %d, want %v", side, err, want)
		}
		for i := range 3 {
			nodes[i], side[i] = 99, 99
		}
	}
	if !slices.Equal(whole, before) {
		t.Errorf("the edges became %v", whole)
	}
}
