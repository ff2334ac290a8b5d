package graph

import (
	"math"
	"slices"
	"testing"

	"teamster/api"
)

// edgesOf makes edges of weight 0 from pairs of nodes.
func edgesOf(pairs ...[2]int) []api.Edge {
	var edges []api.Edge
	for _, p := range pairs {
		edges = append(edges, api.Edge{A: p[0], B: p[1]})
	}
	return edges
}

// allPairs: each two of n nodes.
func allPairs(n int) [][2]int {
	var pairs [][2]int
	for b := range n {
		for a := range b {
			pairs = append(pairs, [2]int{a, b})
		}
	}
	return pairs
}

// graphOf takes of all pairs of n nodes those that the choice has, every other one turned round.
func graphOf(n int, choice uint) api.Graph {
	g := api.Graph{N: n}
	for i, p := range allPairs(n) {
		if choice>>i&1 == 0 {
			continue
		}
		if i%2 == 1 {
			p[0], p[1] = p[1], p[0]
		}
		g.Edges = append(g.Edges, api.Edge{A: p[0], B: p[1], W: int64(i)})
	}
	return g
}

type checkCase struct {
	name string
	g    api.Graph
	want api.Errno
}

func wrongGraphs() []checkCase {
	full := edgesOf(allPairs(10)...)
	good := api.Edge{A: 0, B: 1}
	heavy := api.Edge{A: 0, B: 1, W: api.MaxWeight + 1}
	graph3 := func(edges ...api.Edge) api.Graph { return api.Graph{N: 3, Edges: edges} }
	return []checkCase{
		{"N -1", api.Graph{N: -1}, api.ErrLarge},
		{"N least", api.Graph{N: math.MinInt}, api.ErrLarge},
		{"N 11", api.Graph{N: api.MaxNodes + 1}, api.ErrLarge},
		{"N greatest", api.Graph{N: math.MaxInt}, api.ErrLarge},
		{"N -1, a bad edge", api.Graph{N: -1, Edges: edgesOf([2]int{0, 0})}, api.ErrLarge},
		{"N 11, a bad edge", api.Graph{N: 11, Edges: edgesOf([2]int{0, 99})}, api.ErrLarge},
		{"46 edges, the first one again", api.Graph{N: 10, Edges: append(slices.Clone(full), full[0])}, api.ErrLarge},
		{"46 edges, all bad", api.Graph{N: 0, Edges: make([]api.Edge, api.MaxEdges+1)}, api.ErrLarge},
		{"45 edges, all bad", api.Graph{N: 0, Edges: make([]api.Edge, api.MaxEdges)}, api.ErrArg},
		{"no node, an edge", api.Graph{N: 0, Edges: edgesOf([2]int{0, 1})}, api.ErrArg},
		{"A below", graph3(api.Edge{A: -1, B: 1}), api.ErrArg},
		{"A above", graph3(api.Edge{A: 3, B: 1}), api.ErrArg},
		{"B below", graph3(api.Edge{A: 1, B: -1}), api.ErrArg},
		{"B above", graph3(api.Edge{A: 1, B: 3}), api.ErrArg},
		{"A, B far off", graph3(api.Edge{A: math.MinInt, B: math.MaxInt}), api.ErrArg},
		{"the same, no node", graph3(api.Edge{A: 3, B: 3}), api.ErrArg},
		{"no node, heavy", graph3(api.Edge{A: 0, B: 3, W: math.MaxInt64}), api.ErrArg},
		{"the same", graph3(api.Edge{A: 2, B: 2}), api.ErrForm},
		{"the same, heavy", graph3(api.Edge{A: 2, B: 2, W: math.MaxInt64}), api.ErrForm},
		{"twice", graph3(good, api.Edge{A: 1, B: 2}, good), api.ErrForm},
		{"twice, turned round", graph3(good, api.Edge{A: 1, B: 0}), api.ErrForm},
		{"twice, of another weight", graph3(good, api.Edge{A: 0, B: 1, W: 7}), api.ErrForm},
		{"twice, heavy", graph3(good, heavy), api.ErrForm},
		{"heavy", graph3(heavy), api.ErrRange},
		{"light", graph3(api.Edge{A: 0, B: 1, W: -api.MaxWeight - 1}), api.ErrRange},
		{"heaviest", graph3(api.Edge{A: 0, B: 1, W: math.MaxInt64}), api.ErrRange},
		{"lightest", graph3(api.Edge{A: 0, B: 1, W: math.MinInt64}), api.ErrRange},
		{"heavy ahead of no node", graph3(heavy, api.Edge{A: 0, B: 3}), api.ErrRange},
		{"heavy ahead of twice", graph3(heavy, good), api.ErrRange},
		{"the same ahead of no node", graph3(api.Edge{A: 1, B: 1}, api.Edge{A: 0, B: 3}), api.ErrForm},
		{"no node ahead of the same", graph3(good, api.Edge{A: 0, B: 3}, api.Edge{A: 1, B: 1}), api.ErrArg},
		{"the last edge", api.Graph{N: 10, Edges: append(slices.Clone(full[:44]), full[43])}, api.ErrForm},
	}
}

func rightGraphs() []checkCase {
	return []checkCase{
		{"nothing", api.Graph{}, api.OK},
		{"an empty list", api.Graph{N: 0, Edges: []api.Edge{}}, api.OK},
		{"one node", api.Graph{N: 1}, api.OK},
		{"ten nodes", api.Graph{N: api.MaxNodes}, api.OK},
		{"all edges", api.Graph{N: 10, Edges: edgesOf(allPairs(10)...)}, api.OK},
		{"weights at the edge", api.Graph{N: 3, Edges: []api.Edge{{A: 0, B: 1, W: api.MaxWeight}, {A: 2, B: 1, W: -api.MaxWeight}}}, api.OK},
		{"first and last node", api.Graph{N: 10, Edges: edgesOf([2]int{9, 0})}, api.OK},
		{"one node in two edges", api.Graph{N: 3, Edges: edgesOf([2]int{0, 1}, [2]int{0, 2}, [2]int{1, 2})}, api.OK},
	}
}

// A1: what Check tells.
func TestCheck(t *testing.T) {
	for _, c := range append(wrongGraphs(), rightGraphs()...) {
		if got := Check(c.g); got != c.want {
			t.Errorf("%s: got %d, want %d", c.name, got, c.want)
		}
	}
}

// A1, P2: each call tells Check's error, and nothing else with it.
func TestCallsTellCheckFirst(t *testing.T) {
	for _, c := range wrongGraphs() {
		if l, got := Degrees(c.g); got != c.want || len(l) != 0 {
			t.Errorf("Degrees of %s: %v, %d, want %d", c.name, l, got, c.want)
		}
		if l, got := Parts(c.g); got != c.want || len(l) != 0 {
			t.Errorf("Parts of %s: %v, %d, want %d", c.name, l, got, c.want)
		}
		if l, got := Dist(c.g); got != c.want || len(l) != 0 {
			t.Errorf("Dist of %s: %v, %d, want %d", c.name, l, got, c.want)
		}
		if l, got := Neighbours(c.g); got != c.want || len(l) != 0 {
			t.Errorf("Neighbours of %s: %v, %d, want %d", c.name, l, got, c.want)
		}
	}
}

// Neighbours of a few nodes, one of them without an edge.
func TestNeighbours(t *testing.T) {
	g := api.Graph{N: 4, Edges: edgesOf([2]int{3, 1}, [2]int{1, 0})}
	want := []uint32{0b0010, 0b1001, 0, 0b0010}
	if got, err := Neighbours(g); err != api.OK || !slices.Equal(got, want) {
		t.Errorf("got %b, %d, want %b", got, err, want)
	}
	if got, err := Neighbours(api.Graph{}); err != api.OK || len(got) != 0 {
		t.Errorf("of nothing: %b, %d", got, err)
	}
}

// Linked goes by no node that is not in the word, but for the one that it begins with.
func TestLinked(t *testing.T) {
	around, _ := Neighbours(api.Graph{N: 6, Edges: edgesOf([2]int{0, 1}, [2]int{1, 2}, [2]int{2, 3}, [2]int{3, 0}, [2]int{4, 3})})
	for _, c := range []struct {
		from         int
		within, want uint32
	}{
		{0, math.MaxUint32, 0b011111},
		{0, 0b111111, 0b011111},
		{0, 0b110101, 0b000001},
		{0, 0b110110, 0b000111},
		{0, 0b011100, 0b011101},
		{4, 0b000111, 0b010000},
		{4, 0b001010, 0b011000},
		{2, 0, 0b000100},
		{5, math.MaxUint32, 0b100000},
		{5, 0b011111, 0b100000},
	} {
		if got := Linked(around, c.from, c.within); got != c.want {
			t.Errorf("from %d within %b: %b, want %b", c.from, c.within, got, c.want)
		}
	}
}

// IsNode at both ends, and far off.
func TestIsNode(t *testing.T) {
	for _, c := range []struct {
		n, node int
		want    bool
	}{
		{10, 0, true}, {10, 9, true}, {10, 10, false}, {10, -1, false}, {1, 0, true}, {0, 0, false}, {0, -1, false},
		{10, math.MaxInt, false}, {10, math.MinInt, false},
	} {
		if got := IsNode(c.n, c.node); got != c.want {
			t.Errorf("%d of %d nodes: %v", c.node, c.n, got)
		}
	}
}

// EachOnce: nodes in any order, also fewer than there are, none twice; numbers that are no node, at both ends and far off.
func TestEachOnce(t *testing.T) {
	all := []int{31, 0}
	for node := 1; node < 31; node++ {
		all = append(all, node)
	}
	for _, c := range []struct {
		n    int
		list []int
		want bool
	}{
		{0, nil, true}, {0, []int{}, true}, {3, nil, true}, {1, []int{0}, true}, {3, []int{2, 0, 1}, true}, {3, []int{2, 0}, true}, {10, []int{9}, true},
		{32, all, true}, {31, all, false}, {32, append(slices.Clone(all), 31), false}, {32, append(slices.Clone(all), 0), false},
		{0, []int{0}, false}, {1, []int{0, 0}, false}, {1, []int{1}, false}, {3, []int{0, 1, 0}, false}, {3, []int{1, 2, 2}, false}, {3, []int{0, 1, 2, 1}, false},
		{3, []int{0, 1, 3}, false}, {3, []int{-1, 1, 2}, false}, {3, []int{0, math.MinInt}, false}, {3, []int{math.MaxInt, 0}, false}, {3, []int{1 << 32}, false}, {10, []int{32}, false},
		{-1, nil, true}, {-1, []int{0}, false}, {math.MinInt, []int{-1}, false},
	} {
		if got := EachOnce(c.n, c.list); got != c.want {
			t.Errorf("%v of %d nodes: %v", c.list, c.n, got)
		}
	}
}

// WordOf: nodes in any order, also several times.
func TestWordOf(t *testing.T) {
	for _, c := range []struct {
		list []int
		want uint32
	}{
		{nil, 0}, {[]int{}, 0}, {[]int{0}, 1}, {[]int{3, 0}, 0b1001}, {[]int{0, 3}, 0b1001}, {[]int{1, 1, 2}, 0b110}, {[]int{1, 2, 1, 1}, 0b110}, {[]int{31}, 1 << 31}, {[]int{9, 31, 0}, 1<<31 | 1<<9 | 1},
	} {
		if got := WordOf(c.list); got != c.want {
			t.Errorf("%v: %b, want %b", c.list, got, c.want)
		}
	}
}

// expect holds the three answers of a graph against what they are to be.
func expect(t *testing.T, g api.Graph, degrees, parts []int, dist [][]int) {
	t.Helper()
	if got, err := Degrees(g); err != api.OK || !slices.Equal(got, degrees) {
		t.Errorf("Degrees of %v: %v, %d, want %v", g, got, err, degrees)
	}
	if got, err := Parts(g); err != api.OK || !slices.Equal(got, parts) {
		t.Errorf("Parts of %v: %v, %d, want %v", g, got, err, parts)
	}
	if got, err := Dist(g); err != api.OK || !slices.EqualFunc(got, dist, slices.Equal[[]int]) {
		t.Errorf("Dist of %v: %v, %d, want %v", g, got, err, dist)
	}
}

// A2: the chapter's example, and graphs that are worked out by hand.
func TestByHand(t *testing.T) {
	expect(t, api.Graph{}, nil, nil, nil)
	expect(t, api.Graph{N: 1}, []int{0}, []int{0}, [][]int{{0}})
	expect(t, api.Graph{N: 3, Edges: edgesOf([2]int{0, 2})},
		[]int{1, 0, 1}, []int{0, 1, 0}, [][]int{{0, -1, 1}, {-1, 0, -1}, {1, -1, 0}})
	expect(t, api.Graph{N: 4, Edges: []api.Edge{{A: 3, B: 1, W: -5}, {A: 1, B: 2, W: 9}}},
		[]int{0, 2, 1, 1}, []int{0, 1, 1, 1}, [][]int{{0, -1, -1, -1}, {-1, 0, 1, 1}, {-1, 1, 0, 2}, {-1, 1, 2, 0}})
	expect(t, api.Graph{N: 5, Edges: edgesOf([2]int{0, 1}, [2]int{1, 2}, [2]int{2, 3}, [2]int{3, 4}, [2]int{4, 0})},
		[]int{2, 2, 2, 2, 2}, []int{0, 0, 0, 0, 0},
		[][]int{{0, 1, 2, 2, 1}, {1, 0, 1, 2, 2}, {2, 1, 0, 1, 2}, {2, 2, 1, 0, 1}, {1, 2, 2, 1, 0}})
}

// A2: ten nodes in a row, from the greatest node to the least one: the longest way that there is.
func TestLongestRow(t *testing.T) {
	g := api.Graph{N: 10}
	var degrees []int
	var dist [][]int
	for a := range 10 {
		degrees = append(degrees, 2)
		var row []int
		for b := range 10 {
			row = append(row, max(a-b, b-a))
		}
		dist = append(dist, row)
	}
	degrees[0], degrees[9] = 1, 1
	for a := 9; a > 0; a-- {
		g.Edges = append(g.Edges, api.Edge{A: a, B: a - 1})
	}
	expect(t, g, degrees, make([]int, 10), dist)
}

// A2: ten nodes with no edge, and with all of them.
func TestNoneAndAll(t *testing.T) {
	var each, nines []int
	var apart, together [][]int
	for a := range 10 {
		each, nines = append(each, a), append(nines, 9)
		far, near := slices.Repeat([]int{-1}, 10), slices.Repeat([]int{1}, 10)
		far[a], near[a] = 0, 0
		apart, together = append(apart, far), append(together, near)
	}
	expect(t, api.Graph{N: 10}, make([]int, 10), each, apart)
	expect(t, api.Graph{N: 10, Edges: edgesOf(allPairs(10)...)}, nines, make([]int, 10), together)
}

// slowDist works distances out another way: by trying each node as a stop between each two.
func slowDist(g api.Graph) [][]int {
	const never = 1000
	dist := make([][]int, g.N)
	for a := range dist {
		dist[a] = slices.Repeat([]int{never}, g.N)
		dist[a][a] = 0
	}
	for _, e := range g.Edges {
		dist[e.A][e.B], dist[e.B][e.A] = 1, 1
	}
	for stop := range g.N {
		for a := range g.N {
			for b := range g.N {
				dist[a][b] = min(dist[a][b], dist[a][stop]+dist[stop][b])
			}
		}
	}
	for _, row := range dist {
		for b := range row {
			if row[b] >= never {
				row[b] = -1
			}
		}
	}
	return dist
}

// slowRest takes degrees and parts from distances.
func slowRest(dist [][]int) (degrees, parts []int) {
	for _, row := range dist {
		ones := 0
		for _, d := range row {
			if d == 1 {
				ones++
			}
		}
		degrees = append(degrees, ones)
		parts = append(parts, slices.IndexFunc(row, func(d int) bool { return d >= 0 }))
	}
	return degrees, parts
}

// A2: all graphs of up to five nodes, and a spread of those of ten.
func TestAgainstSlowWay(t *testing.T) {
	hold := func(g api.Graph) {
		dist := slowDist(g)
		degrees, parts := slowRest(dist)
		expect(t, g, degrees, parts, dist)
	}
	for n := range 6 {
		for choice := range uint(1) << len(allPairs(n)) {
			hold(graphOf(n, choice))
		}
	}
	state := uint(12345)
	for range 2000 {
		state = state*6364136223846793005 + 1442695040888963407
		hold(graphOf(10, state>>19&(state>>7)&(state>>3)))
	}
}

// Whoever goes through nodes or layers may stop ahead of their end.
func TestStopEarly(t *testing.T) {
	var got []int
	for node := range nodesOf(0b1011010) {
		got = append(got, node)
		if node == 4 {
			break
		}
	}
	for far, layer := range layers([]uint32{0b110, 0b001, 0b001}, 1, anywhere) {
		got = append(got, far, int(layer))
		if far == 1 {
			break
		}
	}
	if want := []int{1, 3, 4, 0, 0b010, 1, 0b001}; !slices.Equal(got, want) {
		t.Errorf("got %v, want %v", got, want)
	}
}

// P3: neither the list that is handed in nor what lies behind its length is changed or read.
func TestArgumentIsLeftAlone(t *testing.T) {
	whole := []api.Edge{{A: 2, B: 0, W: 5}, {A: 1, B: 2, W: -5}, {A: 77, B: 77, W: math.MaxInt64}}
	before := slices.Clone(whole)
	g := api.Graph{N: 3, Edges: whole[:2]}
	if err := Check(g); err != api.OK {
		t.Errorf("Check: %d", err)
	}
	expect(t, g, []int{1, 1, 2}, []int{0, 0, 0}, [][]int{{0, 2, 1}, {2, 0, 1}, {1, 1, 0}})
	if !slices.Equal(whole, before) {
		t.Errorf("the edges became %v", whole)
	}
}

// P3: no two lists of an answer share memory, not behind their lengths either, and no answer is kept.
func TestAnswersAreNewMemory(t *testing.T) {
	g := api.Graph{N: 3, Edges: edgesOf([2]int{0, 2})}
	want := [][]int{{0, -1, 1}, {-1, 0, -1}, {1, -1, 0}}
	dist, _ := Dist(g)
	for i := range dist {
		row := dist[i][:cap(dist[i])]
		for j := range row {
			row[j] = 50 + i
		}
	}
	for i, row := range dist {
		if slices.ContainsFunc(row, func(d int) bool { return d != 50+i }) {
			t.Errorf("row %d shares memory: %v", i, row)
		}
	}
	degrees, _ := Degrees(g)
	parts, _ := Parts(g)
	for i := range 3 {
		degrees[i], parts[i] = 60, 70
	}
	expect(t, g, []int{1, 0, 1}, []int{0, 1, 0}, want)
}
