package span

import (
	"math"
	"slices"
	"testing"

	"teamster/api"
)

// graphOf makes a graph of n nodes from edges that are written as A, B, W.
func graphOf(n int, edges ...[3]int) api.Graph {
	g := api.Graph{N: n}
	for _, e := range edges {
		g.Edges = append(g.Edges, api.Edge{A: e[0], B: e[1], W: int64(e[2])})
	}
	return g
}

// allPairs: each two of n nodes, every other one turned round.
func allPairs(n int) [][2]int {
	var pairs [][2]int
	for b := range n {
		for a := range b {
			p := [2]int{a, b}
			if len(pairs)%2 == 1 {
				p = [2]int{b, a}
			}
			pairs = append(pairs, p)
		}
	}
	return pairs
}

// chosen takes of all pairs of n nodes those that the choice has.
func chosen(n int, choice uint) api.Graph {
	g := api.Graph{N: n}
	for i, p := range allPairs(n) {
		if choice>>i&1 == 1 {
			g.Edges = append(g.Edges, api.Edge{A: p[0], B: p[1]})
		}
	}
	return g
}

// full: all edges of n nodes.
func full(n int) api.Graph {
	return chosen(n, 1<<len(allPairs(n))-1)
}

// ring: n nodes in a ring.
func ring(n int) api.Graph {
	g := api.Graph{N: n}
	for a := range n {
		g.Edges = append(g.Edges, api.Edge{A: a, B: (a + 1) % n})
	}
	return g
}

// twoSides: each of a nodes has an edge with each of b others.
func twoSides(a, b int) api.Graph {
	g := api.Graph{N: a + b}
	for x := range a {
		for y := range b {
			g.Edges = append(g.Edges, api.Edge{A: a + y, B: x})
		}
	}
	return g
}

// beside lays a graph beside another one, its nodes numbered on.
func beside(g, other api.Graph) api.Graph {
	both := api.Graph{N: g.N + other.N, Edges: slices.Clone(g.Edges)}
	for _, e := range other.Edges {
		both.Edges = append(both.Edges, api.Edge{A: e.A + g.N, B: e.B + g.N, W: e.W})
	}
	return both
}

// spread: a number that looks as if it came from nowhere, the same each time.
func spread(seed uint) uint {
	seed = (seed + 1) * 0x9E3779B97F4A7C15
	seed = (seed ^ seed>>30) * 0xBF58476D1CE4E5B9
	seed = (seed ^ seed>>27) * 0x94D049BB133111EB
	return seed ^ seed>>31
}

// weighted gives edges weights out of so many, around 0, so that there are few or many of the same.
func weighted(g api.Graph, kinds, seed uint) api.Graph {
	edges := slices.Clone(g.Edges)
	for i := range edges {
		edges[i].W = int64(spread(seed*64+uint(i))%kinds) - int64(kinds/2)
	}
	return api.Graph{N: g.N, Edges: edges}
}

// stirred puts edges in another order, turns some of them round and gives them weights.
func stirred(g api.Graph, seed uint) api.Graph {
	edges := slices.Clone(g.Edges)
	for i := range edges {
		by := spread(seed*64 + uint(i))
		j := int(by % uint(i+1))
		edges[i], edges[j] = edges[j], edges[i]
		if by>>32&1 == 1 {
			edges[j].A, edges[j].B = edges[j].B, edges[j].A
		}
		edges[j].W = int64(by>>40%9) - 4
	}
	return api.Graph{N: g.N, Edges: edges}
}

// labels gives of each node the least node that it is linked with by the edges at these places.
func labels(g api.Graph, places []int) []int {
	label := make([]int, g.N)
	for i := range label {
		label[i] = i
	}
	for range g.N {
		for _, p := range places {
			e := g.Edges[p]
			least := min(label[e.A], label[e.B])
			label[e.A], label[e.B] = least, least
		}
	}
	return label
}

func placesOf(choice uint) []int {
	var places []int
	for i := range 64 {
		if choice>>i&1 == 1 {
			places = append(places, i)
		}
	}
	return places
}

// isForest asks the chapter's words: all is linked that is so by all edges, and without any one of the edges less is.
func isForest(g api.Graph, places []int) bool {
	all := labels(g, placesOf(1<<len(g.Edges)-1))
	if !slices.Equal(labels(g, places), all) {
		return false
	}
	for i := range places {
		if slices.Equal(labels(g, slices.Delete(slices.Clone(places), i, i+1)), all) {
			return false
		}
	}
	return true
}

// forests: all forests of a graph, by trial of all sets of edges.
func forests(g api.Graph) [][]int {
	var found [][]int
	for choice := range uint(1) << len(g.Edges) {
		if places := placesOf(choice); isForest(g, places) {
			found = append(found, places)
		}
	}
	return found
}

func weightOf(g api.Graph, places []int) int64 {
	sum := int64(0)
	for _, p := range places {
		sum += g.Edges[p].W
	}
	return sum
}

// lightest: of some forests the lightest one, of several the one that comes first.
func lightest(g api.Graph, found [][]int) []int {
	best := found[0]
	for _, f := range found[1:] {
		less := weightOf(g, f) - weightOf(g, best)
		if less < 0 || less == 0 && slices.Compare(f, best) < 0 {
			best = f
		}
	}
	return best
}

func expectLeast(t *testing.T, name string, g api.Graph, want []int) {
	t.Helper()
	if got, err := Least(g); err != api.OK || !slices.Equal(got, want) {
		t.Errorf("Least of %s %v: %v, %d, want %v", name, g, got, err, want)
	}
}

func expectMany(t *testing.T, name string, g api.Graph, want int64) {
	t.Helper()
	if got, err := Many(g); err != api.OK || got != want {
		t.Errorf("Many of %s %v: %d, %d, want %d", name, g, got, err, want)
	}
}

// C1: the lightest forests of graphs that are worked out by hand.
func TestLeastByHand(t *testing.T) {
	const most = api.MaxWeight
	for _, c := range []struct {
		name string
		g    api.Graph
		want []int
	}{
		{"nothing", api.Graph{}, nil},
		{"one node", api.Graph{N: 1}, nil},
		{"ten nodes without an edge", api.Graph{N: 10}, nil},
		{"one edge", graphOf(2, [3]int{1, 0, 7}), []int{0}},
		{"a heavy edge that must be", graphOf(3, [3]int{0, 1, most}, [3]int{2, 1, -most}), []int{0, 1}},
		{"the first edge too heavy", graphOf(3, [3]int{0, 1, 5}, [3]int{1, 2, 0}, [3]int{2, 0, 0}), []int{1, 2}},
		{"all the same", graphOf(3, [3]int{0, 1, 4}, [3]int{1, 2, 4}, [3]int{2, 0, 4}), []int{0, 1}},
		{"all below 0: no more edges than a forest has", graphOf(3, [3]int{0, 1, -1}, [3]int{1, 2, -2}, [3]int{2, 0, -3}), []int{1, 2}},
		{"weights at the limits", graphOf(3, [3]int{0, 1, most}, [3]int{1, 2, most - 1}, [3]int{2, 0, -most}), []int{1, 2}},
		{"two parts and a node alone", graphOf(7, [3]int{4, 5, 2}, [3]int{0, 1, 2}, [3]int{5, 6, 1}, [3]int{6, 4, 3}, [3]int{1, 2, 2}, [3]int{0, 2, 1}), []int{0, 1, 2, 5}},
		{"rising, though the lightest is last", graphOf(4, [3]int{0, 1, 9}, [3]int{1, 2, 8}, [3]int{2, 3, 7}), []int{0, 1, 2}},
		{"the same weights, a later edge instead", graphOf(4, [3]int{0, 1, 1}, [3]int{1, 2, 1}, [3]int{2, 0, 0}, [3]int{0, 3, 1}, [3]int{3, 1, 1}), []int{0, 2, 3}},
	} {
		expectLeast(t, c.name, c.g, c.want)
	}
	star := full(10)
	var want []int
	for i, e := range star.Edges {
		if star.Edges[i].W = 1; e.A == 6 || e.B == 6 {
			star.Edges[i].W = 0
			want = append(want, i)
		}
	}
	expectLeast(t, "a light star among all edges", star, want)
}

// C1: how many forests graphs have of which it is known.
func TestManyKnown(t *testing.T) {
	expectMany(t, "nothing", api.Graph{}, 1)
	expectMany(t, "one node", api.Graph{N: 1}, 1)
	expectMany(t, "ten nodes", api.Graph{N: 10}, 1)
	expectMany(t, "one edge", graphOf(2, [3]int{0, 1, 3}), 1)
	expectMany(t, "a row", graphOf(4, [3]int{3, 0, 1}, [3]int{0, 2, 0}, [3]int{2, 1, -8}), 1)
	for n, want := range []int64{1, 1, 1, 3, 16, 125, 1296, 16807, 262144, 4782969, 100000000} {
		expectMany(t, "all edges", full(n), want)
		expectMany(t, "all edges, stirred", stirred(full(n), uint(n)), want)
	}
	for n := 3; n <= 10; n++ {
		expectMany(t, "a ring", ring(n), int64(n))
	}
	for a := 1; a <= 9; a++ {
		want := math.Pow(float64(a), float64(9-a)) * math.Pow(float64(10-a), float64(a-1))
		expectMany(t, "two sides", twoSides(a, 10-a), int64(want))
	}
	expectMany(t, "two parts", beside(full(5), full(5)), 125*125)
	expectMany(t, "two parts and nodes alone", beside(beside(full(4), api.Graph{N: 2}), ring(4)), 16*4)
	expectMany(t, "three rings", beside(beside(ring(3), ring(4)), ring(3)), 36)
}

// C1: all graphs of up to five nodes, with few and many weights, against trial of all sets of edges.
func TestAgainstTrial(t *testing.T) {
	for n := range 6 {
		for choice := range uint(1) << len(allPairs(n)) {
			g := chosen(n, choice)
			found := forests(g)
			expectMany(t, "a small one", g, int64(len(found)))
			for kinds := range uint(4) {
				h := weighted(g, 1+kinds*kinds, choice)
				expectLeast(t, "a small one", h, lightest(h, found))
			}
		}
	}
}

// largeGraph: ten nodes, with few edges or with many.
func largeGraph(seed uint) api.Graph {
	choice := spread(seed)
	if seed%3 > 0 {
		choice &= spread(seed + 1<<32)
	}
	if seed%3 > 1 {
		choice &= spread(seed + 1<<33)
	}
	return chosen(10, choice)
}

// byTakingAway works the lightest forest out another way: from the heaviest edge on, of the same weight from the last one on, each goes that can.
func byTakingAway(g api.Graph) []int {
	kept := placesOf(1<<len(g.Edges) - 1)
	all := labels(g, kept)
	order := slices.Clone(kept)
	slices.SortFunc(order, func(a, b int) int {
		if g.Edges[a].W != g.Edges[b].W {
			return int(g.Edges[b].W - g.Edges[a].W)
		}
		return b - a
	})
	for _, p := range order {
		rest := slices.DeleteFunc(slices.Clone(kept), func(q int) bool { return q == p })
		if slices.Equal(labels(g, rest), all) {
			kept = rest
		}
	}
	return kept
}

// C1: a spread of graphs of ten nodes against another way.
func TestLeastOfLarge(t *testing.T) {
	for seed := range uint(1500) {
		g := weighted(stirred(largeGraph(seed), seed), 1+seed%7*4, seed)
		expectLeast(t, "a large one", g, byTakingAway(g))
	}
}

// countByEdge counts the trees of nodes that are all linked, has telling how many edges each two of them have:
// those without the edges of the last node with one other, and those with one of them, where the two become one.
func countByEdge(has [][]int64) int64 {
	last := len(has) - 1
	if last <= 0 {
		return 1
	}
	other := slices.IndexFunc(has[last][:last], func(edges int64) bool { return edges > 0 })
	if other < 0 {
		return 0
	}
	edges := has[last][other]
	one, none := make([][]int64, last), make([][]int64, last+1)
	for i := range has {
		none[i] = slices.Clone(has[i])
	}
	none[last][other], none[other][last] = 0, 0
	for i := range last {
		one[i] = slices.Clone(none[i][:last])
	}
	for i := range last {
		one[other][i] += none[last][i]
		one[i][other] += none[i][last]
	}
	return countByEdge(none) + edges*countByEdge(one)
}

// countByParts counts forests part by part.
func countByParts(g api.Graph) int64 {
	label := labels(g, placesOf(1<<len(g.Edges)-1))
	product := int64(1)
	for first := range g.N {
		var nodes []int
		for node, l := range label {
			if l == first {
				nodes = append(nodes, node)
			}
		}
		has := make([][]int64, len(nodes))
		for i := range has {
			has[i] = make([]int64, len(nodes))
		}
		for _, e := range g.Edges {
			if label[e.A] == first {
				a, b := slices.Index(nodes, e.A), slices.Index(nodes, e.B)
				has[a][b], has[b][a] = 1, 1
			}
		}
		product *= countByEdge(has)
	}
	return product
}

// C1: a spread of graphs of ten nodes, in one part and in several, against a count edge by edge.
func TestManyOfLarge(t *testing.T) {
	parted := 0
	for seed := range uint(600) {
		g := largeGraph(seed)
		expectMany(t, "a large one", g, countByParts(g))
		if slices.Max(labels(g, placesOf(1<<len(g.Edges)-1))) > 0 {
			parted++
		}
	}
	if parted < 50 || parted > 550 {
		t.Errorf("a poor spread: %d of 600 in several parts", parted)
	}
}

// C2: trees and their codes, worked out by hand.
func TestCodeByHand(t *testing.T) {
	for _, c := range []struct {
		name string
		g    api.Graph
		want []int
	}{
		{"the chapter's example", graphOf(3, [3]int{0, 2, 0}, [3]int{1, 2, 0}), []int{2}},
		{"two nodes", graphOf(2, [3]int{0, 1, 0}), nil},
		{"two nodes, turned round, with a weight", graphOf(2, [3]int{1, 0, 9}), nil},
		{"a row", graphOf(5, [3]int{0, 1, 0}, [3]int{1, 2, 0}, [3]int{2, 3, 0}, [3]int{3, 4, 0}), []int{1, 2, 3}},
		{"a row from the middle", graphOf(5, [3]int{3, 1, 0}, [3]int{1, 0, 0}, [3]int{0, 2, 0}, [3]int{2, 4, 0}), []int{1, 0, 2}},
		{"a star", graphOf(5, [3]int{4, 0, 1}, [3]int{0, 3, 2}, [3]int{1, 0, 3}, [3]int{0, 2, 4}), []int{0, 0, 0}},
		{"a star round the last", graphOf(4, [3]int{3, 2, 0}, [3]int{1, 3, 0}, [3]int{3, 0, 0}), []int{3, 3}},
		{"two stars", graphOf(6, [3]int{0, 3, 0}, [3]int{1, 3, 0}, [3]int{2, 3, 0}, [3]int{3, 4, 0}, [3]int{4, 5, 0}), []int{3, 3, 3, 4}},
		{"a lesser node comes free", graphOf(5, [3]int{2, 0, 0}, [3]int{0, 4, 0}, [3]int{4, 1, 0}, [3]int{4, 3, 0}), []int{4, 0, 4}},
	} {
		if got, err := Code(c.g); err != api.OK || !slices.Equal(got, c.want) {
			t.Errorf("%s: %v, %d, want %v", c.name, got, err, c.want)
		}
	}
}

// C2: graphs that are no trees.
func TestNoTree(t *testing.T) {
	for _, c := range []struct {
		name string
		g    api.Graph
	}{
		{"nothing", api.Graph{}},
		{"one node", api.Graph{N: 1}},
		{"two nodes without an edge", api.Graph{N: 2}},
		{"a ring", ring(3)},
		{"a ring and a node alone: as many edges as a tree has", beside(ring(3), api.Graph{N: 1})},
		{"a node alone and a ring", beside(api.Graph{N: 1}, ring(9))},
		{"two rows", graphOf(4, [3]int{0, 1, 0}, [3]int{2, 3, 0})},
		{"a ring with a tail", graphOf(4, [3]int{0, 1, 0}, [3]int{1, 2, 0}, [3]int{2, 0, 0}, [3]int{2, 3, 0})},
		{"all edges", full(10)},
		{"ten nodes", api.Graph{N: 10}},
	} {
		if got, err := Code(c.g); err != api.ErrForm || len(got) != 0 {
			t.Errorf("%s: %v, %d, want %d", c.name, got, err, api.ErrForm)
		}
	}
}

// slowCode takes the edges away as the chapter says it, and tells them in the order in which they go, A being the node that goes.
func slowCode(g api.Graph) []api.Edge {
	var gone []api.Edge
	for edges := slices.Clone(g.Edges); len(edges) > 0; {
		for node := range g.N {
			mine := func(e api.Edge) bool { return e.A == node || e.B == node }
			first := slices.IndexFunc(edges, mine)
			if first < 0 || slices.ContainsFunc(edges[first+1:], mine) {
				continue
			}
			gone = append(gone, api.Edge{A: node, B: edges[first].A + edges[first].B - node})
			edges = slices.Delete(edges, first, first+1)
			break
		}
	}
	return gone
}

// expectTree holds Code and Decode of a tree against the slow way.
func expectTree(t *testing.T, g api.Graph) {
	t.Helper()
	gone := slowCode(g)
	var want []int
	for _, e := range gone[:g.N-2] {
		want = append(want, e.B)
	}
	got, err := Code(g)
	if err != api.OK || !slices.Equal(got, want) {
		t.Errorf("Code of %v: %v, %d, want %v", g, got, err, want)
	}
	tree, err := Decode(want)
	if err != api.OK || tree.N != g.N || !slices.Equal(tree.Edges, gone) {
		t.Errorf("Decode of %v: %v, %d, want %v", want, tree, err, gone)
	}
}

// C2: all graphs of up to five nodes: those that are trees, and those that are none.
func TestAllSmallTrees(t *testing.T) {
	trees := [6]int{}
	for n := range 6 {
		for choice := range uint(1) << len(allPairs(n)) {
			g := chosen(n, choice)
			all := placesOf(1<<len(g.Edges) - 1)
			if n >= 2 && len(all) == n-1 && slices.Max(labels(g, all)) == 0 {
				trees[n]++
				expectTree(t, g)
			} else if got, err := Code(g); err != api.ErrForm || len(got) != 0 {
				t.Errorf("Code of %v: %v, %d, want %d", g, got, err, api.ErrForm)
			}
		}
	}
	if want := [6]int{0, 0, 1, 3, 16, 125}; trees != want {
		t.Errorf("trees met: %v, want %v", trees, want)
	}
}

// codeOf: the code of so many numbers that the number stands for.
func codeOf(length int, number uint) []int {
	code := make([]int, length)
	for i := range code {
		code[i] = int(number % uint(length+2))
		number /= uint(length + 2)
	}
	return code
}

// C2: each code of up to five numbers, and a spread of longer ones, is that of the tree that it is made into, however its edges stand.
func TestThereAndBack(t *testing.T) {
	hold := func(code []int, seed uint) {
		tree, err := Decode(code)
		if err != api.OK || tree.N != len(code)+2 || len(tree.Edges) != len(code)+1 {
			t.Errorf("Decode of %v: %v, %d", code, tree, err)
			return
		}
		if !slices.Equal(slowCode(tree), tree.Edges) {
			t.Errorf("Decode of %v: the edges don't go in this order: %v", code, tree.Edges)
		}
		if got, err := Code(stirred(tree, seed)); err != api.OK || !slices.Equal(got, code) {
			t.Errorf("Code of the tree of %v: %v, %d", code, got, err)
		}
	}
	count := uint(1)
	for length := range 6 {
		for number := range count {
			hold(codeOf(length, number), number)
		}
		count = 1
		for range length + 1 {
			count *= uint(length + 3)
		}
	}
	for seed := range uint(3000) {
		hold(codeOf(6+int(seed%3), spread(seed)), seed)
	}
}

// C2: trees of codes, worked out by hand.
func TestDecodeByHand(t *testing.T) {
	for _, c := range []struct {
		code  []int
		pairs [][2]int
	}{
		{nil, [][2]int{{0, 1}}},
		{[]int{}, [][2]int{{0, 1}}},
		{[]int{0}, [][2]int{{1, 0}, {0, 2}}},
		{[]int{1}, [][2]int{{0, 1}, {1, 2}}},
		{[]int{2}, [][2]int{{0, 2}, {1, 2}}},
		{[]int{3, 3, 3, 4}, [][2]int{{0, 3}, {1, 3}, {2, 3}, {3, 4}, {4, 5}}},
		{[]int{4, 0, 4}, [][2]int{{1, 4}, {2, 0}, {0, 4}, {3, 4}}},
		{[]int{9, 9, 9, 9, 9, 9, 9, 9}, [][2]int{{0, 9}, {1, 9}, {2, 9}, {3, 9}, {4, 9}, {5, 9}, {6, 9}, {7, 9}, {8, 9}}},
		{[]int{0, 0, 0, 0, 0, 0, 0, 0}, [][2]int{{1, 0}, {2, 0}, {3, 0}, {4, 0}, {5, 0}, {6, 0}, {7, 0}, {8, 0}, {0, 9}}},
	} {
		var want []api.Edge
		for _, p := range c.pairs {
			want = append(want, api.Edge{A: p[0], B: p[1]})
		}
		got, err := Decode(c.code)
		if err != api.OK || got.N != len(c.code)+2 || !slices.Equal(got.Edges, want) {
			t.Errorf("Decode of %v: %v, %d, want %v", c.code, got, err, want)
		}
	}
}

// C2, P2: codes that are too long, which is told first, or that have a number that is no node.
func TestWrongCodes(t *testing.T) {
	for _, c := range []struct {
		code []int
		want api.Errno
	}{
		{make([]int, api.MaxNodes-1), api.ErrLarge},
		{make([]int, 1000), api.ErrLarge},
		{slices.Repeat([]int{-1}, 9), api.ErrLarge},
		{slices.Repeat([]int{99}, 8), api.ErrArg},
		{[]int{-1}, api.ErrArg},
		{[]int{3}, api.ErrArg},
		{[]int{math.MinInt}, api.ErrArg},
		{[]int{math.MaxInt}, api.ErrArg},
		{[]int{4, 0}, api.ErrArg},
		{[]int{0, 4}, api.ErrArg},
		{[]int{0, 1, 2, 3, 4, 5, 6, 10}, api.ErrArg},
		{[]int{0, 1, -1, 3, 4, 5, 6, 7}, api.ErrArg},
	} {
		if got, err := Decode(c.code); err != c.want || got.N != 0 || len(got.Edges) != 0 {
			t.Errorf("Decode of %v: %v, %d, want %d", c.code, got, err, c.want)
		}
	}
}

// A1, P2: each call tells first what is wrong with the graph, and nothing else with it.
func TestWrongGraphs(t *testing.T) {
	for _, c := range []struct {
		name string
		g    api.Graph
		want api.Errno
	}{
		{"N -1", api.Graph{N: -1}, api.ErrLarge},
		{"N least", api.Graph{N: math.MinInt}, api.ErrLarge},
		{"N 11", ring(11), api.ErrLarge},
		{"N greatest", api.Graph{N: math.MaxInt}, api.ErrLarge},
		{"46 edges", api.Graph{N: 10, Edges: make([]api.Edge, api.MaxEdges+1)}, api.ErrLarge},
		{"no node, an edge", graphOf(0, [3]int{0, 1, 0}), api.ErrArg},
		{"an end below", graphOf(3, [3]int{0, 1, 0}, [3]int{1, -1, 0}), api.ErrArg},
		{"an end above", graphOf(3, [3]int{0, 1, 0}, [3]int{3, 1, 0}), api.ErrArg},
		{"ends far off", graphOf(3, [3]int{math.MinInt, math.MaxInt, 0}), api.ErrArg},
		{"an edge with one end", graphOf(2, [3]int{1, 1, 0}), api.ErrForm},
		{"an edge there and back", graphOf(3, [3]int{0, 1, 0}, [3]int{1, 0, 5}), api.ErrForm},
		{"too heavy", graphOf(2, [3]int{0, 1, api.MaxWeight + 1}), api.ErrRange},
		{"too light", graphOf(2, [3]int{0, 1, -api.MaxWeight - 1}), api.ErrRange},
		{"no tree, too heavy", graphOf(3, [3]int{0, 1, math.MaxInt}), api.ErrRange},
	} {
		if got, err := Least(c.g); err != c.want || len(got) != 0 {
			t.Errorf("Least of %s: %v, %d, want %d", c.name, got, err, c.want)
		}
		if got, err := Many(c.g); err != c.want || got != 0 {
			t.Errorf("Many of %s: %d, %d, want %d", c.name, got, err, c.want)
		}
		if got, err := Code(c.g); err != c.want || len(got) != 0 {
			t.Errorf("Code of %s: %v, %d, want %d", c.name, got, err, c.want)
		}
	}
}

// P3: neither a graph that is handed in nor what lies behind its edges is changed or read, nor is an answer kept.
func TestGraphIsLeftAlone(t *testing.T) {
	whole := []api.Edge{{A: 2, B: 0, W: 5}, {A: 1, B: 2, W: -5}, {A: 77, B: 77, W: math.MaxInt64}}
	before := slices.Clone(whole)
	g := api.Graph{N: 3, Edges: whole[:2]}
	for range 2 {
		expectLeast(t, "a part of a list", g, []int{0, 1})
		expectMany(t, "a part of a list", g, 1)
		code, err := Code(g)
		if err != api.OK || !slices.Equal(code, []int{2}) {
			t.Errorf("Code: %v, %d", code, err)
		}
		forest, _ := Least(g)
		code[0], forest[0] = 99, 99
	}
	if !slices.Equal(whole, before) {
		t.Errorf("the edges became %v", whole)
	}
}

// P3: neither a code that is handed in nor what lies behind it is changed or read, nor is an answer kept.
func TestCodeIsLeftAlone(t *testing.T) {
	whole := []int{3, 0, 77, -77}
	want := []api.Edge{{A: 1, B: 3}, {A: 2, B: 0}, {A: 0, B: 3}}
	for range 2 {
		tree, err := Decode(whole[:2])
		if err != api.OK || tree.N != 4 || !slices.Equal(tree.Edges, want) {
			t.Errorf("Decode: %v, %d", tree, err)
		}
		tree.Edges[0] = api.Edge{A: 99, B: 99, W: 99}
	}
	if !slices.Equal(whole, []int{3, 0, 77, -77}) {
		t.Errorf("the code became %v", whole)
	}
}
