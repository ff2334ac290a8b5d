package lanes

import (
	"math"
	"math/bits"
	"slices"
	"testing"

	"teamster/api"
)

// row: a way through these nodes.
func row(nodes ...int) [][2]int {
	var pairs [][2]int
	for i := range len(nodes) - 1 {
		pairs = append(pairs, [2]int{nodes[i], nodes[i+1]})
	}
	return pairs
}

// allPairs: each two of n nodes, every other one turned round, but for those that are left out.
func allPairs(n int, leftOut ...[2]int) [][2]int {
	var pairs [][2]int
	for high := range n {
		for low := range high {
			p := [2]int{low, high}
			if slices.Contains(leftOut, p) {
				continue
			}
			if len(pairs)%2 == 1 {
				p = [2]int{high, low}
			}
			pairs = append(pairs, p)
		}
	}
	return pairs
}

// laid makes a graph of n nodes from lists of pairs; the weights differ, as nothing hangs on them.
func laid(n int, lists ...[][2]int) api.Graph {
	g := api.Graph{N: n}
	for i, p := range slices.Concat(lists...) {
		g.Edges = append(g.Edges, api.Edge{A: p[0], B: p[1], W: int64(3 - i)})
	}
	return g
}

// chosen takes of all pairs of n nodes those that the choice has.
func chosen(n int, choice uint) api.Graph {
	var pairs [][2]int
	for i, p := range allPairs(n) {
		if choice>>i&1 == 1 {
			pairs = append(pairs, p)
		}
	}
	return laid(n, pairs)
}

// spread: a number that looks as if it came from nowhere, the same each time.
func spread(seed uint) uint {
	seed = (seed + 1) * 0x9E3779B97F4A7C15
	seed = (seed ^ seed>>30) * 0xBF58476D1CE4E5B9
	seed = (seed ^ seed>>27) * 0x94D049BB133111EB
	return seed ^ seed>>31
}

// haveEdge says whether two nodes have an edge.
func haveEdge(g api.Graph, a, b int) bool {
	return slices.ContainsFunc(g.Edges, func(e api.Edge) bool {
		return e.A == a && e.B == b || e.A == b && e.B == a
	})
}

// isWay says whether a list of nodes is a way from a to b.
func isWay(g api.Graph, a, b int, nodes []int) bool {
	if len(nodes) < 2 || nodes[0] != a || nodes[len(nodes)-1] != b {
		return false
	}
	for i, node := range nodes {
		if slices.Contains(nodes[:i], node) || i > 0 && !haveEdge(g, nodes[i-1], node) {
			return false
		}
	}
	return true
}

// areApart says whether the lists are ways from a to b, no two of which have another node in common.
func areApart(g api.Graph, a, b int, ways [][]int) bool {
	met := map[int]int{}
	for _, nodes := range ways {
		if !isWay(g, a, b, nodes) {
			return false
		}
		for _, node := range nodes[1 : len(nodes)-1] {
			if met[node]++; met[node] > 1 {
				return false
			}
		}
	}
	return true
}

// expect holds the count of the ways and the wall against what they are to be.
func expect(t *testing.T, name string, g api.Graph, a, b, count int, wall uint32) {
	t.Helper()
	if ways, err := Apart(g, a, b); err != api.OK || len(ways) != count || !areApart(g, a, b, ways) {
		t.Errorf("Apart of %s, %v, from %d to %d: %v, %d, want %d ways", name, g, a, b, ways, err, count)
	}
	if got, err := Wall(g, a, b); err != api.OK || got != wall {
		t.Errorf("Wall of %s, %v, from %d to %d: %b, %d, want %b", name, g, a, b, got, err, wall)
	}
}

type handCase struct {
	name        string
	g           api.Graph
	a, b, count int
	wall        uint32
}

func notLinked() []handCase {
	return []handCase{
		{"two nodes", api.Graph{N: 2}, 0, 1, 0, 0},
		{"two nodes, an empty list", api.Graph{N: 2, Edges: []api.Edge{}}, 0, 1, 0, 0},
		{"ten nodes", api.Graph{N: 10}, 0, 9, 0, 0},
		{"a ring beside them", laid(5, row(1, 2, 3, 1)), 0, 4, 0, 0},
		{"a ring at the one", laid(5, row(0, 1, 2, 3, 0)), 0, 4, 0, 0},
		{"a part round each", laid(7, row(0, 1, 2, 0), row(3, 4, 5, 6)), 0, 5, 0, 0},
	}
}

func oneWayAlone() []handCase {
	return []handCase{
		{"three in a row", laid(3, row(0, 1, 2)), 0, 2, 1, 0b10},
		{"three in a row, the middle is the greatest", laid(3, row(0, 2, 1)), 0, 1, 1, 0b100},
		{"three in a row, the middle is the least", laid(3, row(1, 0, 2)), 1, 2, 1, 0b1},
		{"four in a row, the lesser of two", laid(4, row(0, 2, 1, 3)), 0, 3, 1, 0b10},
		{"ten in a row", laid(10, row(0, 1, 2, 3, 4, 5, 6, 7, 8, 9)), 0, 9, 1, 0b10},
		{"ten in a row, the least node is in it", laid(10, row(9, 5, 7, 3, 0, 2, 4, 6, 8, 1)), 9, 1, 1, 0b1},
		{"a row, and dead ends beside it", laid(7, row(3, 2, 6), row(0, 3, 1), row(2, 4), row(6, 5)), 3, 6, 1, 0b100},
		{"two rings with a node in common", laid(7, row(0, 1, 3, 2, 0), row(3, 4, 6, 5, 3)), 0, 6, 1, 0b1000},
		{"two rings and an edge between them", laid(8, row(0, 1, 4, 2, 0), row(7, 5, 3, 6, 7), row(3, 4)), 0, 7, 1, 0b1000},
		{"all comes by the node behind a", laid(6, row(0, 4), row(4, 1, 5), row(4, 2, 5), row(4, 3, 5)), 0, 5, 1, 0b10000},
		{"a part of a row", laid(6, row(0, 1, 2, 3, 4, 5)), 4, 2, 1, 0b1000},
	}
}

func severalWays() []handCase {
	return []handCase{
		{"the chapter's example", laid(4, row(0, 1, 2, 3, 0)), 0, 2, 2, 10},
		{"the chapter's example, the other two", laid(4, row(0, 1, 2, 3, 0)), 1, 3, 2, 5},
		{"a ring of ten", laid(10, row(0, 1, 2, 3, 4, 5, 6, 7, 8, 9, 0)), 0, 5, 2, 0b1000010},
		{"eight nodes between", laid(10, row(0, 1, 9, 2, 0), row(0, 3, 9, 4, 0), row(0, 5, 9, 6, 0), row(0, 7, 9, 8, 0)), 0, 9, 8, 0b111111110},
		{"all edges of ten but one", laid(10, allPairs(10, [2]int{3, 6})), 3, 6, 8, 0b1110110111},
		{"all edges of five but two", laid(5, allPairs(5, [2]int{0, 4}, [2]int{0, 1})), 0, 4, 2, 0b1100},
		{"the shortest way shuts two out", laid(8, row(0, 1, 4, 7), row(1, 2, 5, 7), row(0, 3, 6, 4)), 0, 7, 2, 0b1010},
		{"the shortest way shuts two out, mixed", laid(8, row(5, 2, 0, 6), row(2, 7, 1, 6), row(5, 4, 3, 0)), 5, 6, 2, 0b11},
		{"the shortest way shuts one of three out", laid(10, row(0, 1, 4, 9), row(1, 2, 5, 9), row(0, 3, 6, 4), row(0, 7, 8, 9)), 0, 9, 3, 0b10001010},
		{"a way must be taken back twice", laid(10, row(0, 1, 2, 3, 9), row(0, 4, 5, 2), row(1, 6, 7, 9)), 0, 9, 2, 0b110},
		{"a short cut helps nobody", laid(6, row(0, 1, 3, 5), row(0, 2, 4, 5), row(1, 2), row(3, 4), row(1, 4), row(2, 3)), 0, 5, 2, 0b110},
		{"more edges than nodes at the narrow", laid(8, row(0, 1, 4, 5, 7), row(0, 2, 4, 6, 7), row(0, 3, 4)), 0, 7, 1, 0b10000},
		{"a narrow of two in the middle", laid(10, row(0, 4, 1, 7, 9), row(0, 5, 2, 8, 9), row(0, 6, 1), row(6, 2), row(4, 2), row(1, 3, 9), row(2, 7)), 0, 9, 2, 0b110},
		{"walls at both ends, the lesser word is at b", laid(8, row(0, 6, 3, 2, 7), row(0, 5, 4, 1, 7)), 0, 7, 2, 0b110},
		{"walls that take one of each", laid(8, row(0, 6, 3, 1, 7), row(0, 2, 4, 5, 7)), 0, 7, 2, 0b110},
		{"a lesser node, but no wall with it", laid(7, row(3, 0, 4), row(3, 0, 1, 4)[1:], row(3, 5, 6), row(6, 4), row(2, 5)), 3, 4, 2, 0b100001},
		{"fewer members, though the word is greater", laid(6, row(4, 0, 3, 5), row(4, 1, 3), row(4, 2, 3)), 4, 5, 1, 0b1000},
	}
}

// I1: the chapter's example, and others that are worked out by hand; and the same with a and b the other way round.
func TestByHand(t *testing.T) {
	for _, c := range slices.Concat(notLinked(), oneWayAlone(), severalWays()) {
		expect(t, c.name, c.g, c.a, c.b, c.count, c.wall)
		expect(t, c.name+", the other way round", c.g, c.b, c.a, c.count, c.wall)
	}
}

// I1: what ways there are, where it can be no others.
func TestTheWays(t *testing.T) {
	ten := []int{9, 5, 7, 3, 0, 2, 4, 6, 8, 1}
	for _, c := range []struct {
		g    api.Graph
		a, b int
		want [][]int
	}{
		{api.Graph{N: 3}, 0, 1, [][]int{}},
		{laid(3, row(0, 1, 2)), 0, 2, [][]int{{0, 1, 2}}},
		{laid(3, row(0, 1, 2)), 2, 0, [][]int{{2, 1, 0}}},
		{laid(10, row(ten...)), 9, 1, [][]int{ten}},
		{laid(4, row(0, 1, 2, 3, 0)), 0, 2, [][]int{{0, 1, 2}, {0, 3, 2}}},
		{laid(4, row(0, 1, 2, 3, 0)), 3, 1, [][]int{{3, 0, 1}, {3, 2, 1}}},
		{laid(8, row(0, 1, 4, 7), row(1, 2, 5, 7), row(0, 3, 6, 4)), 0, 7, [][]int{{0, 1, 2, 5, 7}, {0, 3, 6, 4, 7}}},
		{laid(8, row(0, 1, 4, 7), row(1, 2, 5, 7), row(0, 3, 6, 4)), 7, 0, [][]int{{7, 4, 6, 3, 0}, {7, 5, 2, 1, 0}}},
	} {
		got, err := Apart(c.g, c.a, c.b)
		slices.SortFunc(got, slices.Compare[[]int])
		if err != api.OK || !slices.EqualFunc(got, c.want, slices.Equal[[]int]) {
			t.Errorf("Apart of %v from %d to %d: %v, %d, want %v", c.g, c.a, c.b, got, err, c.want)
		}
	}
}

// expectWrong holds that both calls tell an error, and nothing else with it.
func expectWrong(t *testing.T, name string, g api.Graph, a, b int, want api.Errno) {
	t.Helper()
	if ways, err := Apart(g, a, b); err != want || len(ways) != 0 {
		t.Errorf("Apart of %s from %d to %d: %v, %d, want %d", name, a, b, ways, err, want)
	}
	if wall, err := Wall(g, a, b); err != want || wall != 0 {
		t.Errorf("Wall of %s from %d to %d: %b, %d, want %d", name, a, b, wall, err, want)
	}
}

type wrongCase struct {
	name string
	g    api.Graph
	want api.Errno
}

func wrongGraphs() []wrongCase {
	heavy := api.Edge{A: 0, B: 1, W: api.MaxWeight + 1}
	light := api.Edge{A: 1, B: 2, W: math.MinInt64}
	return []wrongCase{
		{"N -1", api.Graph{N: -1}, api.ErrLarge},
		{"N least", api.Graph{N: math.MinInt}, api.ErrLarge},
		{"N 11", laid(11, row(0, 2, 1)), api.ErrLarge},
		{"N 32", api.Graph{N: 32}, api.ErrLarge},
		{"N greatest", api.Graph{N: math.MaxInt}, api.ErrLarge},
		{"N 11, an edge with one end", laid(11, row(0, 0)), api.ErrLarge},
		{"46 edges, one of them twice", laid(10, allPairs(10), row(0, 1)), api.ErrLarge},
		{"46 edges, all bad", api.Graph{N: 3, Edges: make([]api.Edge, api.MaxEdges+1)}, api.ErrLarge},
		{"no node, an edge", laid(0, row(0, 1)), api.ErrArg},
		{"an end below", laid(3, row(0, 2, -1)), api.ErrArg},
		{"an end above", laid(3, row(0, 2, 3)), api.ErrArg},
		{"ends far off", laid(3, row(math.MinInt, math.MaxInt)), api.ErrArg},
		{"an end above ahead of an edge with one end", laid(3, row(0, 3), row(1, 1)), api.ErrArg},
		{"an edge with one end", laid(3, row(0, 2, 1), row(1, 1)), api.ErrForm},
		{"an edge there and back", laid(3, row(0, 2, 0)), api.ErrForm},
		{"an edge twice", laid(3, row(0, 2, 1), row(0, 2)), api.ErrForm},
		{"too heavy", api.Graph{N: 3, Edges: []api.Edge{heavy}}, api.ErrRange},
		{"too light", api.Graph{N: 3, Edges: []api.Edge{light}}, api.ErrRange},
		{"too heavy ahead of an end above", api.Graph{N: 3, Edges: []api.Edge{heavy, {A: 0, B: 3}}}, api.ErrRange},
	}
}

// A1, P2: what is wrong with the graph is told first, whatever a and b are.
func TestWrongGraphs(t *testing.T) {
	for _, c := range wrongGraphs() {
		for _, ends := range [][2]int{{0, 1}, {0, 2}, {2, 1}, {1, 1}, {-1, 0}, {0, 99}, {math.MaxInt, math.MinInt}} {
			expectWrong(t, c.name, c.g, ends[0], ends[1], c.want)
		}
	}
}

// I1: a or b is no node, or they are the same.
func TestWrongEnds(t *testing.T) {
	three := laid(3, row(0, 2), row(2, 1))
	for _, ends := range [][2]int{
		{0, 0}, {2, 2}, {-1, 0}, {0, -1}, {3, 0}, {0, 3}, {-1, -1}, {3, 3}, {-1, 3}, {3, 4}, {10, 0}, {32, 1}, {1, 32}, {0, 33}, {64, 1}, {0, 65},
		{math.MinInt, 0}, {0, math.MinInt}, {math.MaxInt, 0}, {0, math.MaxInt}, {math.MinInt, math.MaxInt},
	} {
		expectWrong(t, "three nodes", three, ends[0], ends[1], api.ErrArg)
		expectWrong(t, "no node", api.Graph{}, ends[0], ends[1], api.ErrArg)
		expectWrong(t, "one node", api.Graph{N: 1}, ends[0], ends[1], api.ErrArg)
	}
	expectWrong(t, "no node", api.Graph{}, 0, 1, api.ErrArg)
	expectWrong(t, "one node", api.Graph{N: 1}, 0, 1, api.ErrArg)
	expectWrong(t, "ten nodes", api.Graph{N: 10}, 0, 10, api.ErrArg)
	expectWrong(t, "ten nodes", api.Graph{N: 10}, 10, 9, api.ErrArg)
}

// I1: a and b have an edge, be it the only way or not.
func TestLinkedByAnEdge(t *testing.T) {
	for _, g := range []api.Graph{laid(2, row(0, 1)), laid(2, row(1, 0)), laid(4, row(0, 1, 2, 3, 0)), laid(10, row(9, 5, 0, 1)), laid(10, allPairs(10))} {
		expectWrong(t, "an edge", g, 0, 1, api.ErrForm)
		expectWrong(t, "an edge", g, 1, 0, api.ErrForm)
	}
	expectWrong(t, "the greatest nodes", laid(10, row(8, 9)), 8, 9, api.ErrForm)
	expectWrong(t, "the greatest nodes", laid(10, row(8, 9)), 9, 8, api.ErrForm)
}

// insides lists of all ways from a to b the words of their nodes but a and b, each word once.
func insides(g api.Graph, a, b int) []uint32 {
	count := map[uint32]int{}
	var goOn func(node int, met uint32)
	goOn = func(node int, met uint32) {
		if node == b {
			count[met&^(1<<a|1<<b)]++
			return
		}
		for next := range g.N {
			if met>>next&1 == 0 && haveEdge(g, node, next) {
				goOn(next, met|1<<next)
			}
		}
	}
	goOn(a, 1<<a)
	var words []uint32
	for word := range count {
		words = append(words, word)
	}
	return words
}

// wallByTrial goes through all words from the greatest one to the least one, and tells how many with the fewest members there are besides the last one.
func wallByTrial(g api.Graph, a, b int) (wall uint32, count int) {
	words := insides(g, a, b)
	few := math.MaxInt
	for word := int64(1)<<g.N - 1; word >= 0; word-- {
		tried := uint32(word)
		if tried&(1<<a|1<<b) != 0 || slices.ContainsFunc(words, func(inside uint32) bool { return inside&tried == 0 }) {
			continue
		}
		switch size := bits.OnesCount32(tried); {
		case size < few:
			wall, few, count = tried, size, 1
		case size == few:
			wall = tried
			count++
		}
	}
	return wall, count
}

// expectTrial holds both calls against trial, and tells the size of the wall and how many there are of that size.
// Each way meets the wall in a node of its own: so where there are as many ways as it has nodes, there can't be more.
func expectTrial(t *testing.T, g api.Graph, a, b int) (size, count int) {
	t.Helper()
	wall, count := wallByTrial(g, a, b)
	size = bits.OnesCount32(wall)
	expect(t, "one of many", g, a, b, size, wall)
	return size, count
}

// I1: all graphs of up to five nodes, each two of them, and of six nodes two of them, against trial.
func TestAllSmall(t *testing.T) {
	for n := range 7 {
		for choice := range uint(1) << (n * max(n-1, 0) / 2) {
			g := chosen(n, choice)
			for a := range n {
				for b := range n {
					switch {
					case n == 6 && !(a == 1 && b == 4 || a == 5 && b == 0):
					case a == b:
					case haveEdge(g, a, b):
						expectWrong(t, "one of many", g, a, b, api.ErrForm)
					default:
						expectTrial(t, g, a, b)
					}
				}
			}
		}
	}
}

// ladder lets nodes that are far from each other in some order seldom have an edge, so that ways are long and may shut each other out.
func ladder(n int, seed uint) api.Graph {
	order := make([]int, n)
	for i := range order {
		j := int(spread(seed*64+uint(i)) % uint(i+1))
		order[i] = order[j]
		order[j] = i
	}
	var pairs [][2]int
	for high := range n {
		for low := range high {
			luck := spread(seed*1024 + uint(high*32+low))
			if high-low <= 3 && luck%3 > 0 || high-low == 4 && luck%8 == 0 {
				pairs = append(pairs, [2]int{order[low], order[high]})
			}
		}
	}
	return laid(n, pairs)
}

// I1: a spread of graphs of six to ten nodes, sparse and full, against trial.
func TestAgainstTrial(t *testing.T) {
	met, several := [9]int{}, 0
	for seed := range uint(400) {
		n := 6 + int(seed%5)
		sparse := spread(seed) & spread(seed+1000)
		for _, g := range []api.Graph{ladder(n, seed), chosen(n, sparse), chosen(n, sparse|spread(seed+2000))} {
			a := int(spread(seed+3000) % uint(n))
			b := (a + 1 + int(spread(seed+4000)%uint(n-1))) % n
			if haveEdge(g, a, b) {
				g.Edges = slices.DeleteFunc(g.Edges, func(e api.Edge) bool { return e.A+e.B == a+b && (e.A == a || e.A == b) })
			}
			size, count := expectTrial(t, g, a, b)
			met[size]++
			if count > 1 {
				several++
			}
		}
	}
	for size := range 7 {
		if met[size] < 10 {
			t.Errorf("a poor spread: %d walls of %d nodes", met[size], size)
		}
	}
	if several < 100 {
		t.Errorf("a poor spread: only %d times there are several walls with the fewest members", several)
	}
}

// I1, P4: weights are not looked at, but for whether they are in range.
func TestWeightsDoNotMatter(t *testing.T) {
	for _, w := range []int64{-api.MaxWeight, -1, 0, 1, api.MaxWeight} {
		g := laid(5, row(0, 1, 2, 3, 0), row(2, 4))
		g.Edges[0].W, g.Edges[3].W, g.Edges[4].W = w, -w, w
		expect(t, "weights", g, 0, 2, 2, 0b1010)
		expect(t, "weights", g, 0, 4, 1, 0b100)
	}
}

// P3: neither the list that is handed in nor what lies behind its length is changed or read.
func TestArgumentIsLeftAlone(t *testing.T) {
	whole := append(laid(5, row(0, 1, 2, 3, 0)).Edges, api.Edge{A: 0, B: 2}, api.Edge{A: 77, B: 77, W: math.MaxInt64})
	before := slices.Clone(whole)
	for range 2 {
		expect(t, "a piece of a list", api.Graph{N: 5, Edges: whole[:4]}, 0, 2, 2, 0b1010)
		expect(t, "a piece of a list", api.Graph{N: 5, Edges: whole[:3]}, 0, 2, 1, 0b10)
	}
	if !slices.Equal(whole, before) {
		t.Errorf("the edges became %v", whole)
	}
}

// P3: no two lists of an answer share memory, not behind their lengths either, and no answer is kept.
func TestAnswersAreNewMemory(t *testing.T) {
	g := laid(10, allPairs(10, [2]int{0, 9}))
	first, _ := Apart(g, 0, 9)
	for i := range first {
		nodes := first[i][:cap(first[i])]
		for j := range nodes {
			nodes[j] = 50 + i
		}
	}
	for i, nodes := range first {
		if len(nodes) == 0 || slices.ContainsFunc(nodes, func(node int) bool { return node != 50+i }) {
			t.Errorf("way %d shares memory: %v", i, nodes)
		}
	}
	expect(t, "all edges but one", g, 0, 9, 8, 0b111111110)
}

// P3: what is answered is the same each time.
func TestAgain(t *testing.T) {
	for seed := range uint(50) {
		g := ladder(10, seed)
		for a := range 10 {
			for b := range 10 {
				ways, err := Apart(g, a, b)
				again, errAgain := Apart(g, a, b)
				if err != errAgain || !slices.EqualFunc(ways, again, slices.Equal[[]int]) {
					t.Errorf("Apart of %v from %d to %d: %v, %d, and then %v, %d", g, a, b, ways, err, again, errAgain)
				}
			}
		}
	}
}
