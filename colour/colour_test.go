package colour

import (
	"math"
	"math/bits"
	"slices"
	"testing"

	"teamster/api"
)

// graphOf makes a graph of n nodes from pairs of nodes; the weights differ, as nothing hangs on them.
func graphOf(n int, pairs ...[2]int) api.Graph {
	g := api.Graph{N: n}
	for i, p := range pairs {
		g.Edges = append(g.Edges, api.Edge{A: p[0], B: p[1], W: int64(3 - i)})
	}
	return g
}

// allPairs: each two of n nodes, every other one turned round.
func allPairs(n int) [][2]int {
	var pairs [][2]int
	for b := range n {
		for a := range b {
			p := [2]int{a, b}
			if len(pairs)%2 == 1 {
				p = [2]int{b, a}
			}
			pairs = append(pairs, p)
		}
	}
	return pairs
}

// chosen takes of all pairs of n nodes those that the choice has.
func chosen(n int, choice uint) api.Graph {
	var pairs [][2]int
	for i, p := range allPairs(n) {
		if choice>>i&1 == 1 {
			pairs = append(pairs, p)
		}
	}
	return graphOf(n, pairs...)
}

// row: a way through these nodes.
func row(nodes ...int) [][2]int {
	var pairs [][2]int
	for i := range len(nodes) - 1 {
		pairs = append(pairs, [2]int{nodes[i], nodes[i+1]})
	}
	return pairs
}

// ring: a way through these nodes and back to the first.
func ring(nodes ...int) [][2]int {
	return row(append(slices.Clone(nodes), nodes[0])...)
}

// full: an edge between each two of these nodes.
func full(nodes ...int) [][2]int {
	var pairs [][2]int
	for _, p := range allPairs(len(nodes)) {
		pairs = append(pairs, [2]int{nodes[p[0]], nodes[p[1]]})
	}
	return pairs
}

// between: an edge from each of the one to each of the other nodes.
func between(one, other []int) [][2]int {
	var pairs [][2]int
	for _, a := range one {
		for _, b := range other {
			pairs = append(pairs, [2]int{a, b})
		}
	}
	return pairs
}

// laid makes a graph of n nodes from lists of pairs.
func laid(n int, all ...[][2]int) api.Graph {
	return graphOf(n, slices.Concat(all...)...)
}

// without: the same pairs, but for one of them.
func without(pairs [][2]int, a, b int) [][2]int {
	return slices.DeleteFunc(slices.Clone(pairs), func(p [2]int) bool {
		return p == [2]int{a, b} || p == [2]int{b, a}
	})
}

// crown: ten nodes, two by two; those of two sides have an edge, but for the two of a pair.
func crown() api.Graph {
	pairs := between([]int{0, 2, 4, 6, 8}, []int{1, 3, 5, 7, 9})
	for i := range 5 {
		pairs = without(pairs, 2*i, 2*i+1)
	}
	return graphOf(10, pairs...)
}

// star5 has a ring of five, another one that skips every other node, and an edge from each node of the one to one of the other.
func star5() api.Graph {
	return laid(10, ring(0, 1, 2, 3, 4), ring(5, 7, 9, 6, 8), row(0, 5), row(1, 6), row(2, 7), row(3, 8), row(4, 9))
}

// upTo: the numbers from 0 on, ahead of count.
func upTo(count int) []int {
	var list []int
	for i := range count {
		list = append(list, i)
	}
	return list
}

// spread: a number that looks as if it came from nowhere, the same each time.
func spread(seed uint) uint {
	seed = (seed + 1) * 0x9E3779B97F4A7C15
	seed = (seed ^ seed>>30) * 0xBF58476D1CE4E5B9
	seed = (seed ^ seed>>27) * 0x94D049BB133111EB
	return seed ^ seed>>31
}

// shuffled: the numbers below n in some order.
func shuffled(n int, seed uint) []int {
	list := make([]int, n)
	for i := range list {
		j := int(spread(seed*16+uint(i)) % uint(i+1))
		list[i], list[j] = list[j], i
	}
	return list
}

// scattered: a graph of n nodes that has of each eight pairs about so many.
func scattered(n int, dense, seed uint) api.Graph {
	var pairs [][2]int
	for i, p := range allPairs(n) {
		if spread(seed*64+uint(i))%8 < dense {
			pairs = append(pairs, p)
		}
	}
	return graphOf(n, pairs...)
}

func expectLeast(t *testing.T, name string, g api.Graph, k int, want []int) {
	t.Helper()
	if least, colours, err := Least(g); err != api.OK || least != k || !slices.Equal(colours, want) {
		t.Errorf("Least of %s, %v: %d, %v, %d, want %d, %v", name, g, least, colours, err, k, want)
	}
}

func expectGreedy(t *testing.T, name string, g api.Graph, order, want []int) {
	t.Helper()
	if colours, err := Greedy(g, order); err != api.OK || !slices.Equal(colours, want) {
		t.Errorf("Greedy of %s, %v, by %v: %v, %d, want %v", name, g, order, colours, err, want)
	}
}

func expectCount(t *testing.T, name string, g api.Graph, k int, want int64) {
	t.Helper()
	if count, err := Count(g, k); err != api.OK || count != want {
		t.Errorf("Count of %s, %v, by %d: %d, %d, want %d", name, g, k, count, err, want)
	}
}

func expectTurned(t *testing.T, name string, g api.Graph, want int64) {
	t.Helper()
	if count, err := Turned(g); err != api.OK || count != want {
		t.Errorf("Turned of %s, %v: %d, %d, want %d", name, g, count, err, want)
	}
}

// power: base to the power of so many.
func power(base int64, many int) int64 {
	product := int64(1)
	for range many {
		product *= base
	}
	return product
}

// falling: in how many ways so many can have each another one of k colours.
func falling(k int64, many int) int64 {
	product := int64(1)
	for i := range int64(many) {
		product *= k - i
	}
	return product
}

// ofRing: how many colourings a ring of so many has.
func ofRing(k int64, many int) int64 {
	if many%2 == 1 {
		return power(k-1, many) - (k - 1)
	}
	return power(k-1, many) + (k - 1)
}

type handCase struct {
	name  string
	g     api.Graph
	first []int
	count func(k int64) int64
	turns int64
}

// smallCases: the edges that have to do with few nodes or edges.
func smallCases() []handCase {
	return []handCase{
		{"nothing", api.Graph{}, nil, func(int64) int64 { return 1 }, 1},
		{"nothing, an empty list", api.Graph{Edges: []api.Edge{}}, nil, func(int64) int64 { return 1 }, 1},
		{"one node", api.Graph{N: 1}, []int{0}, func(k int64) int64 { return k }, 1},
		{"two nodes without an edge", api.Graph{N: 2}, []int{0, 0}, func(k int64) int64 { return k * k }, 1},
		{"ten nodes without an edge", api.Graph{N: 10}, make([]int, 10), func(k int64) int64 { return power(k, 10) }, 1},
		{"one edge", laid(2, row(0, 1)), []int{0, 1}, func(k int64) int64 { return k * (k - 1) }, 2},
		{"one edge, turned round", laid(2, row(1, 0)), []int{0, 1}, func(k int64) int64 { return k * (k - 1) }, 2},
		{"an edge past a node", laid(3, row(0, 2)), []int{0, 0, 1}, func(k int64) int64 { return k * k * (k - 1) }, 2},
		{"an edge behind a node", laid(3, row(2, 1)), []int{0, 0, 1}, func(k int64) int64 { return k * k * (k - 1) }, 2},
		{"an edge ahead of a node", laid(3, row(1, 0)), []int{0, 1, 0}, func(k int64) int64 { return k * k * (k - 1) }, 2},
		{"the first and the last of ten", laid(10, row(9, 0)), []int{0, 0, 0, 0, 0, 0, 0, 0, 0, 1}, func(k int64) int64 { return power(k, 9) * (k - 1) }, 2},
		{"the chapter's example", laid(3, ring(0, 1, 2)), []int{0, 1, 2}, func(k int64) int64 { return falling(k, 3) }, 6},
		{"three in a row", laid(3, row(0, 1, 2)), []int{0, 1, 0}, func(k int64) int64 { return k * power(k-1, 2) }, 4},
		{"four in a row", laid(4, row(0, 1, 2, 3)), []int{0, 1, 0, 1}, func(k int64) int64 { return k * power(k-1, 3) }, 8},
		{"four in a row, its ends first", laid(4, row(0, 2, 3, 1)), []int{0, 1, 1, 0}, func(k int64) int64 { return k * power(k-1, 3) }, 8},
		{"a ring of four", laid(4, ring(0, 1, 2, 3)), []int{0, 1, 0, 1}, func(k int64) int64 { return ofRing(k, 4) }, 14},
		{"a ring of five", laid(5, ring(0, 1, 2, 3, 4)), []int{0, 1, 0, 1, 2}, func(k int64) int64 { return ofRing(k, 5) }, 30},
		{"a ring of five, mixed", laid(5, ring(0, 2, 4, 1, 3)), []int{0, 0, 1, 1, 2}, func(k int64) int64 { return ofRing(k, 5) }, 30},
		{"all edges of four but one", laid(4, without(full(0, 1, 2, 3), 0, 3)), []int{0, 1, 2, 0}, func(k int64) int64 { return falling(k, 3) * (k - 2) }, 18},
		{"two of three, tied", laid(6, ring(0, 1, 2), ring(3, 4, 5), row(0, 3), row(1, 4), row(2, 5)), []int{0, 1, 2, 1, 2, 0},
			func(k int64) int64 { return falling(k, 3) * (k*k*k - 6*k*k + 14*k - 13) }, 204},
	}
}

// greatCases: the edges that have to do with many nodes or edges, or with several parts.
func greatCases() []handCase {
	all, two := full(upTo(10)...), between([]int{0, 1, 2, 3, 4}, []int{5, 6, 7, 8, 9})
	ofTwo := func(k int64) int64 { // those of five that have one, two, .. colours among them, by in how many ways they are parted
		return falling(k, 1)*power(k-1, 5) + 15*falling(k, 2)*power(k-2, 5) + 25*falling(k, 3)*power(k-3, 5) + 10*falling(k, 4)*power(k-4, 5) + falling(k, 5)*power(k-5, 5)
	}
	return []handCase{
		{"all edges of ten", laid(10, all), upTo(10), func(k int64) int64 { return falling(k, 10) }, 3628800},
		{"all edges of ten but the first", laid(10, without(all, 0, 1)), []int{0, 0, 1, 2, 3, 4, 5, 6, 7, 8}, func(k int64) int64 { return falling(k, 10) + falling(k, 9) }, 3265920},
		{"all edges of ten but the last", laid(10, without(all, 9, 8)), []int{0, 1, 2, 3, 4, 5, 6, 7, 8, 8}, func(k int64) int64 { return falling(k, 10) + falling(k, 9) }, 3265920},
		{"all edges of nine, and a node", laid(10, full(upTo(9)...)), []int{0, 1, 2, 3, 4, 5, 6, 7, 8, 0}, func(k int64) int64 { return k * falling(k, 9) }, 362880},
		{"a ring of ten", laid(10, ring(upTo(10)...)), []int{0, 1, 0, 1, 0, 1, 0, 1, 0, 1}, func(k int64) int64 { return ofRing(k, 10) }, 1022},
		{"a ring of nine, and a node", laid(10, ring(1, 2, 3, 4, 5, 6, 7, 8, 9)), []int{0, 0, 1, 0, 1, 0, 1, 0, 1, 2}, func(k int64) int64 { return k * ofRing(k, 9) }, 510},
		{"a row of ten", laid(10, row(upTo(10)...)), []int{0, 1, 0, 1, 0, 1, 0, 1, 0, 1}, func(k int64) int64 { return k * power(k-1, 9) }, 512},
		{"a star", laid(10, between([]int{9}, upTo(9))), []int{0, 0, 0, 0, 0, 0, 0, 0, 0, 1}, func(k int64) int64 { return k * power(k-1, 9) }, 512},
		{"a ring of eight, and one with an edge to each", laid(9, ring(1, 2, 3, 4, 5, 6, 7, 8), between([]int{0}, []int{1, 2, 3, 4, 5, 6, 7, 8})),
			[]int{0, 1, 2, 1, 2, 1, 2, 1, 2}, func(k int64) int64 { return k * ofRing(k-1, 8) }, 6558},
		{"a ring of nine, and one with an edge to each", laid(10, ring(1, 2, 3, 4, 5, 6, 7, 8, 9), between([]int{0}, []int{1, 2, 3, 4, 5, 6, 7, 8, 9})),
			[]int{0, 1, 2, 1, 2, 1, 2, 1, 2, 3}, func(k int64) int64 { return k * ofRing(k-1, 9) }, 19680},
		{"two sides", laid(10, two), []int{0, 0, 0, 0, 0, 1, 1, 1, 1, 1}, ofTwo, 329462},
		{"two sides, mixed", laid(10, between([]int{1, 3, 5, 7, 9}, []int{0, 2, 4, 6, 8})), []int{0, 1, 0, 1, 0, 1, 0, 1, 0, 1}, ofTwo, 329462},
		{"two rings of five, tied", star5(), []int{0, 1, 0, 1, 2, 1, 0, 2, 2, 1}, func(k int64) int64 {
			return falling(k, 3) * (power(k, 7) - 12*power(k, 6) + 67*power(k, 5) - 230*power(k, 4) + 529*power(k, 3) - 814*k*k + 775*k - 352)
		}, 16680},
		{"three, two and one", laid(6, ring(0, 1, 2), row(3, 4)), []int{0, 1, 2, 0, 1, 0}, func(k int64) int64 { return falling(k, 3) * falling(k, 2) * k }, 12},
		{"three, three and four in one another", laid(10, full(0, 3, 6), full(1, 4, 7), full(2, 5, 8, 9)), []int{0, 0, 0, 1, 1, 1, 2, 2, 2, 3},
			func(k int64) int64 { return falling(k, 3) * falling(k, 3) * falling(k, 4) }, 864},
		{"five times two", laid(10, row(0, 9), row(8, 1), row(2, 7), row(6, 3), row(4, 5)), []int{0, 0, 0, 0, 0, 1, 1, 1, 1, 1}, func(k int64) int64 { return power(falling(k, 2), 5) }, 32},
		{"a greater number late", laid(10, full(5, 6, 7, 8, 9), row(0, 1)), []int{0, 1, 0, 0, 0, 0, 1, 2, 3, 4}, func(k int64) int64 { return falling(k, 5) * falling(k, 2) * power(k, 3) }, 240},
	}
}

// M1, M2: the chapter's example, and graphs of which all is known by hand.
func TestByHand(t *testing.T) {
	for _, c := range append(smallCases(), greatCases()...) {
		k := 0
		for _, number := range c.first {
			k = max(k, number+1)
		}
		expectLeast(t, c.name, c.g, k, c.first)
		for k := range 13 {
			expectCount(t, c.name, c.g, k, c.count(int64(k)))
		}
		expectTurned(t, c.name, c.g, c.turns)
	}
}

// M2: how many there are, by number: the sums of TestByHand might be wrong in like manner.
func TestCountByNumber(t *testing.T) {
	for _, c := range []struct {
		name string
		g    api.Graph
		k    int
		want int64
	}{
		{"nothing", api.Graph{}, 0, 1},
		{"nothing", api.Graph{}, 1, 1},
		{"nothing", api.Graph{}, 12, 1},
		{"one node", api.Graph{N: 1}, 0, 0},
		{"one node", api.Graph{N: 1}, 12, 12},
		{"the chapter's example", laid(3, ring(0, 1, 2)), 2, 0},
		{"the chapter's example", laid(3, ring(0, 1, 2)), 3, 6},
		{"the chapter's example", laid(3, ring(0, 1, 2)), 4, 24},
		{"the chapter's example", laid(3, ring(0, 1, 2)), 12, 1320},
		{"ten nodes without an edge", api.Graph{N: 10}, 0, 0},
		{"ten nodes without an edge", api.Graph{N: 10}, 1, 1},
		{"ten nodes without an edge", api.Graph{N: 10}, 2, 1024},
		{"ten nodes without an edge", api.Graph{N: 10}, 12, 61917364224},
		{"all edges of ten", chosen(10, 1<<45-1), 9, 0},
		{"all edges of ten", chosen(10, 1<<45-1), 10, 3628800},
		{"all edges of ten", chosen(10, 1<<45-1), 12, 239500800},
		{"a ring of ten", laid(10, ring(upTo(10)...)), 1, 0},
		{"a ring of ten", laid(10, ring(upTo(10)...)), 2, 2},
		{"a ring of ten", laid(10, ring(upTo(10)...)), 3, 1026},
		{"a ring of nine", laid(9, ring(upTo(9)...)), 2, 0},
		{"a ring of nine", laid(9, ring(upTo(9)...)), 3, 510},
		{"two of three, tied", laid(6, ring(0, 1, 2), ring(3, 4, 5), row(0, 3), row(1, 4), row(2, 5)), 3, 12},
		{"two rings of five, tied", star5(), 2, 0},
		{"two rings of five, tied", star5(), 3, 120},
		{"five times two", laid(10, row(0, 9), row(8, 1), row(2, 7), row(6, 3), row(4, 5)), 2, 32},
		{"two sides but for pairs", crown(), 2, 2},
	} {
		expectCount(t, c.name, c.g, c.k, c.want)
	}
}

// M1: what comes of orders, worked out by hand.
func TestGreedyByHand(t *testing.T) {
	across := laid(4, row(0, 2, 3, 1))
	for _, c := range []struct {
		name        string
		g           api.Graph
		order, want []int
	}{
		{"nothing, nil", api.Graph{}, nil, nil},
		{"nothing", api.Graph{}, []int{}, nil},
		{"one node", api.Graph{N: 1}, []int{0}, []int{0}},
		{"ten nodes without an edge", api.Graph{N: 10}, []int{9, 0, 8, 1, 7, 2, 6, 3, 5, 4}, make([]int, 10)},
		{"one edge", laid(2, row(0, 1)), []int{0, 1}, []int{0, 1}},
		{"one edge, the other way", laid(2, row(0, 1)), []int{1, 0}, []int{1, 0}},
		{"the chapter's example", laid(3, ring(0, 1, 2)), []int{0, 1, 2}, []int{0, 1, 2}},
		{"the chapter's example, told by node and not by turn", laid(3, ring(0, 1, 2)), []int{1, 2, 0}, []int{2, 0, 1}},
		{"the chapter's example, turned", laid(3, ring(0, 1, 2)), []int{2, 1, 0}, []int{2, 1, 0}},
		{"a row from end to end", laid(4, row(0, 1, 2, 3)), []int{0, 1, 2, 3}, []int{0, 1, 0, 1}},
		{"a row, its ends first", laid(4, row(0, 1, 2, 3)), []int{0, 3, 1, 2}, []int{0, 1, 2, 0}},
		{"a row, its middle first", laid(4, row(0, 1, 2, 3)), []int{2, 1, 3, 0}, []int{0, 1, 0, 1}},
		{"a row, every other one", laid(4, row(0, 1, 2, 3)), []int{2, 0, 3, 1}, []int{0, 1, 0, 1}},
		{"a row that must be more by its numbers", across, []int{0, 1, 2, 3}, []int{0, 0, 1, 2}},
		{"a row that need not be more", across, []int{0, 2, 3, 1}, []int{0, 1, 1, 0}},
		{"a lesser colour comes free again", laid(5, row(0, 1, 2), row(0, 2), row(2, 3), row(1, 4)), []int{0, 1, 2, 3, 4}, []int{0, 1, 2, 0, 0}},
		{"one in the midst is free", laid(5, full(0, 1, 2), row(0, 3), row(2, 3), row(3, 4)), []int{0, 1, 2, 3, 4}, []int{0, 1, 2, 1, 0}},
		{"a star, its hub first", laid(4, between([]int{0}, []int{1, 2, 3})), []int{0, 3, 2, 1}, []int{0, 1, 1, 1}},
		{"a star, its hub last", laid(4, between([]int{0}, []int{1, 2, 3})), []int{3, 1, 2, 0}, []int{1, 0, 0, 0}},
		{"a star, its hub in the midst", laid(4, between([]int{0}, []int{1, 2, 3})), []int{2, 0, 3, 1}, []int{1, 0, 0, 0}},
		{"two sides but for pairs, pair by pair", crown(), upTo(10), []int{0, 0, 1, 1, 2, 2, 3, 3, 4, 4}},
		{"two sides but for pairs, pair by pair, from the end", crown(), []int{9, 8, 7, 6, 5, 4, 3, 2, 1, 0}, []int{4, 4, 3, 3, 2, 2, 1, 1, 0, 0}},
		{"two sides but for pairs, side by side", crown(), []int{0, 2, 4, 6, 8, 1, 3, 5, 7, 9}, []int{0, 1, 0, 1, 0, 1, 0, 1, 0, 1}},
		{"two sides but for pairs, the other side first", crown(), []int{9, 7, 5, 3, 1, 0, 2, 4, 6, 8}, []int{1, 0, 1, 0, 1, 0, 1, 0, 1, 0}},
		{"all edges of ten", chosen(10, 1<<45-1), []int{3, 1, 4, 0, 5, 9, 2, 6, 8, 7}, []int{3, 1, 6, 0, 2, 4, 7, 9, 8, 5}},
		{"two of three, tied", laid(6, ring(0, 1, 2), ring(3, 4, 5), row(0, 3), row(1, 4), row(2, 5)), upTo(6), []int{0, 1, 2, 1, 0, 3}},
		{"parts in turns", laid(6, row(0, 1, 2), row(3, 4, 5)), []int{4, 0, 3, 1, 5, 2}, []int{0, 1, 0, 1, 0, 1}},
	} {
		expectGreedy(t, c.name, c.g, c.order, c.want)
	}
}

// clashes says whether an edge has two nodes with one number.
func clashes(g api.Graph, colours []int) bool {
	return slices.ContainsFunc(g.Edges, func(e api.Edge) bool { return colours[e.A] == colours[e.B] })
}

// colouringsByTrial tries all lists of numbers below k, and gives how many are colourings, and the first of them.
func colouringsByTrial(g api.Graph, k int) (int64, []int) {
	count, first := int64(0), []int(nil)
	for number := range power(int64(k), g.N) {
		colours := make([]int, g.N)
		for node := g.N - 1; node >= 0; node-- {
			colours[node] = int(number % int64(k))
			number /= int64(k)
		}
		if clashes(g, colours) {
			continue
		}
		if count == 0 {
			first = colours
		}
		count++
	}
	return count, first
}

// endless says whether along the words of the nodes that each leads to one can go on and on.
func endless(to []uint32) bool {
	left := uint32(1)<<len(to) - 1
	for again := true; again; {
		again = false
		for node, onTo := range to {
			if left>>node&1 == 1 && onTo&left == 0 {
				left &^= 1 << node
				again = true
			}
		}
	}
	return left != 0
}

// turnedByTrial turns all edges in all ways.
func turnedByTrial(g api.Graph) int64 {
	count := int64(0)
	for ways := range 1 << len(g.Edges) {
		to := make([]uint32, g.N)
		for i, e := range g.Edges {
			if ways>>i&1 == 0 {
				to[e.A] |= 1 << e.B
			} else {
				to[e.B] |= 1 << e.A
			}
		}
		if !endless(to) {
			count++
		}
	}
	return count
}

// greedyByList does what the chapter says of Greedy, edge by edge.
func greedyByList(g api.Graph, order []int) []int {
	colours := slices.Repeat([]int{-1}, g.N)
	for _, node := range order {
		number := 0
		has := func(e api.Edge) bool {
			return e.A == node && colours[e.B] == number || e.B == node && colours[e.A] == number
		}
		for slices.ContainsFunc(g.Edges, has) {
			number++
		}
		colours[node] = number
	}
	return colours
}

// apartOf says of each set of nodes whether it has no edge.
func apartOf(g api.Graph) []bool {
	apart := make([]bool, 1<<g.N)
	for set := range apart {
		apart[set] = !slices.ContainsFunc(g.Edges, func(e api.Edge) bool { return set>>e.A&1 == 1 && set>>e.B&1 == 1 })
	}
	return apart
}

// countBySets gives how many colourings by 0, 1, .. 12 colours there are: colour by colour, which nodes have it.
func countBySets(g api.Graph) (counts [13]int64) {
	apart, all := apartOf(g), 1<<g.N-1
	ways := make([]int64, all+1)
	ways[0] = 1
	for k := range counts {
		counts[k] = ways[all]
		next := make([]int64, all+1)
		for set := range next {
			for some := set; ; some = (some - 1) & set {
				if apart[some] {
					next[set] += ways[set&^some]
				}
				if some == 0 {
					break
				}
			}
		}
		ways = next
	}
	return counts
}

// turnedByLayers counts turnings by how far one can come to a node: each one has its place behind one of those that are one step less far, and behind none as far.
func turnedByLayers(g api.Graph) int64 {
	around := make([]int, g.N)
	for _, e := range g.Edges {
		around[e.A] |= 1 << e.B
		around[e.B] |= 1 << e.A
	}
	apart, known := apartOf(g), map[[2]int]int64{}
	var onFrom func(rest, last int) int64
	onFrom = func(rest, last int) int64 {
		if rest == 0 {
			return 1
		}
		if sum, is := known[[2]int{rest, last}]; is {
			return sum
		}
		may := 0
		for node := range around {
			if rest>>node&1 == 1 && around[node]&last != 0 {
				may |= 1 << node
			}
		}
		sum := int64(0)
		for layer := may; layer != 0; layer = (layer - 1) & may {
			if apart[layer] {
				sum += onFrom(rest&^layer, layer)
			}
		}
		known[[2]int{rest, last}] = sum
		return sum
	}
	all, sum := 1<<g.N-1, int64(0)
	if all == 0 {
		return 1
	}
	for layer := all; layer != 0; layer = (layer - 1) & all {
		if apart[layer] {
			sum += onFrom(all&^layer, layer)
		}
	}
	return sum
}

// firstByTrial tries the colourings by k colours node by node, the lesser number first and taking back what leads no further, and gives the first one; false, if there is none.
func firstByTrial(g api.Graph, k int) ([]int, bool) {
	colours := slices.Repeat([]int{-1}, g.N)
	var onFrom func(node int) bool
	onFrom = func(node int) bool {
		if node == g.N {
			return true
		}
		for number := range k {
			has := func(e api.Edge) bool {
				return e.A == node && colours[e.B] == number || e.B == node && colours[e.A] == number
			}
			if slices.ContainsFunc(g.Edges, has) {
				continue
			}
			colours[node] = number
			if onFrom(node + 1) {
				return true
			}
			colours[node] = -1
		}
		return false
	}
	is := onFrom(0)
	return colours, is
}

// orders: the numbers below n in all orders.
func orders(n int) [][]int {
	if n == 0 {
		return [][]int{nil}
	}
	var all [][]int
	for _, order := range orders(n - 1) {
		for place := range n {
			all = append(all, slices.Insert(slices.Clone(order), place, n-1))
		}
	}
	return all
}

// M1, M2: all graphs of up to five nodes, against trial of all colourings by up to five colours, of all turnings, and of all orders.
func TestAllSmall(t *testing.T) {
	graphs, others, more := 0, 0, 0
	for n := range 6 {
		all := orders(n)
		for choice := range uint(1) << (n * (n - 1) / 2) {
			g, known := chosen(n, choice), false
			bySets := countBySets(g)
			for k := range 6 {
				count, first := colouringsByTrial(g, k)
				if count != bySets[k] {
					t.Fatalf("the two ways to count colourings of %v by %d tell %d and %d", g, k, count, bySets[k])
				}
				if count > 0 && !known {
					known = true
					expectLeast(t, "one of all", g, k, first)
					if !slices.Equal(first, greedyByList(g, upTo(n))) {
						others++
					}
				}
			}
			for k, count := range bySets {
				expectCount(t, "one of all", g, k, count)
			}
			turned := turnedByTrial(g)
			if layers := turnedByLayers(g); layers != turned {
				t.Fatalf("the two ways to count turnings of %v tell %d and %d", g, turned, layers)
			}
			expectTurned(t, "one of all", g, turned)
			for _, order := range all {
				want := greedyByList(g, order)
				expectGreedy(t, "one of all", g, order, want)
				if n > 0 && bySets[slices.Max(want)] > 0 {
					more++
				}
			}
			graphs++
		}
	}
	if graphs != 1+1+2+8+64+1024 || others < 50 || more < 3000 {
		t.Errorf("a poor spread: %d, %d, %d", graphs, others, more)
	}
}

// hold holds all that is told of a graph against the other ways to know of it, and gives the least number of colours.
func hold(t *testing.T, g api.Graph) int {
	t.Helper()
	counts := countBySets(g)
	for k, count := range counts {
		expectCount(t, "one of many", g, k, count)
	}
	expectTurned(t, "one of many", g, turnedByLayers(g))
	k := slices.IndexFunc(counts[:], func(count int64) bool { return count > 0 })
	first, is := firstByTrial(g, k)
	if !is {
		t.Fatalf("the two ways to know of %v don't agree", g)
	}
	expectLeast(t, "one of many", g, k, first)
	return k
}

// M1, M2: a part of all graphs of six nodes.
func TestSomeOfSix(t *testing.T) {
	var met [7]int
	for choice := uint(0); choice < 1<<15; choice += 13 {
		g := chosen(6, choice)
		met[hold(t, g)]++
		if bits.OnesCount(choice) < 10 {
			expectTurned(t, "one of many", g, turnedByTrial(g))
		}
		for i := range uint(4) {
			order := shuffled(6, choice*4+i)
			expectGreedy(t, "one of many", g, order, greedyByList(g, order))
		}
	}
	if met[2] < 100 || met[3] < 1000 || met[4] < 200 || met[5] < 10 {
		t.Errorf("a poor spread: %v", met)
	}
}

// M1, M2: a spread of graphs of seven to ten nodes.
func TestGreater(t *testing.T) {
	var met [11]int
	others := 0
	for seed := range uint(320) {
		g := scattered(7+int(seed%4), 1+seed/4%8, seed)
		k := hold(t, g)
		met[k]++
		if _, colours, _ := Least(g); !slices.Equal(colours, greedyByList(g, upTo(g.N))) {
			others++
		}
	}
	if slices.Min(met[2:7]) < 10 || met[7] == 0 || met[8] == 0 || met[9] == 0 || met[10] == 0 || others < 60 {
		t.Errorf("a poor spread: %v, %d", met, others)
	}
}

// joined: a graph of ten nodes in so many sets, of which almost all pairs that are not in one set have an edge; so there are often several colourings by few colours.
func joined(sets int, seed uint) api.Graph {
	place := shuffled(10, seed)
	var pairs [][2]int
	for i, p := range allPairs(10) {
		if place[p[0]]%sets != place[p[1]]%sets && spread(seed*64+uint(i))%8 < 3+seed%5 {
			pairs = append(pairs, p)
		}
	}
	return graphOf(10, pairs...)
}

// M1: graphs of ten nodes that come to more colours than must be, if each node in turn has the least that it can.
func TestFirstOfTheLeast(t *testing.T) {
	more, same := 0, 0
	for seed := range uint(3000) {
		g := joined(2+int(seed%5), seed)
		k := 0
		first, is := firstByTrial(g, k)
		for !is {
			k++
			first, is = firstByTrial(g, k)
		}
		expectLeast(t, "one of many", g, k, first)
		if slices.Max(greedyByList(g, upTo(10))) >= k {
			more++
		} else {
			same++
		}
	}
	if more < 1000 || same < 500 {
		t.Errorf("a poor spread: %d, %d", more, same)
	}
}

// M1: by the order of the colours that Least tells one never comes to more colours; by others one does.
func TestOrdersOfTen(t *testing.T) {
	more, fewest := 0, 0
	for seed := range uint(3000) {
		g := joined(2+int(seed%5), seed+5000)
		k, colours, _ := Least(g)
		order := upTo(10)
		slices.SortStableFunc(order, func(a, b int) int { return colours[a] - colours[b] })
		best, err := Greedy(g, order)
		if err != api.OK || slices.Max(best) != k-1 || clashes(g, best) {
			t.Errorf("Greedy of %v by %v: %v, %d, want %d colours", g, order, best, err, k)
		}
		order = shuffled(10, seed)
		want := greedyByList(g, order)
		expectGreedy(t, "one of many", g, order, want)
		if slices.Max(want) >= k {
			more++
		} else {
			fewest++
		}
	}
	if more < 1000 || fewest < 500 {
		t.Errorf("a poor spread: %d, %d", more, fewest)
	}
}

// M1, M2: in what order the edges stand, how they are turned and what they weigh does not matter.
func TestEdgesInAnyOrder(t *testing.T) {
	for seed := range uint(300) {
		g := scattered(8, 1+seed%8, seed+900)
		k, colours, _ := Least(g)
		four, _ := Count(g, 4)
		turned, _ := Turned(g)
		order := shuffled(8, seed)
		greedy, _ := Greedy(g, order)
		other := api.Graph{N: 8}
		for _, place := range shuffled(len(g.Edges), seed) {
			e := g.Edges[place]
			if spread(seed*64+uint(place))%2 == 0 {
				e.A, e.B = e.B, e.A
			}
			e.W = int64(spread(seed*64+uint(place)+7)%(2*api.MaxWeight+1)) - api.MaxWeight
			other.Edges = append(other.Edges, e)
		}
		expectLeast(t, "the same mixed", other, k, colours)
		expectCount(t, "the same mixed", other, 4, four)
		expectTurned(t, "the same mixed", other, turned)
		expectGreedy(t, "the same mixed", other, order, greedy)
	}
}

type wrongCase struct {
	name string
	g    api.Graph
	want api.Errno
}

func wrongGraphs() []wrongCase {
	return []wrongCase{
		{"N -1", api.Graph{N: -1}, api.ErrLarge},
		{"N least", api.Graph{N: math.MinInt}, api.ErrLarge},
		{"N 11", api.Graph{N: api.MaxNodes + 1}, api.ErrLarge},
		{"N 11, a ring", laid(11, ring(0, 1, 2)), api.ErrLarge},
		{"N greatest", api.Graph{N: math.MaxInt}, api.ErrLarge},
		{"46 edges", api.Graph{N: 10, Edges: make([]api.Edge, api.MaxEdges+1)}, api.ErrLarge},
		{"no node, an edge", laid(0, row(0, 1)), api.ErrArg},
		{"an end below", laid(3, ring(0, 1, -1)), api.ErrArg},
		{"an end above", laid(3, ring(0, 1, 3)), api.ErrArg},
		{"ends far off", laid(3, row(math.MinInt, math.MaxInt)), api.ErrArg},
		{"an edge with one end", laid(3, ring(0, 1, 2), row(1, 1)), api.ErrForm},
		{"an edge there and back", laid(3, ring(0, 1)), api.ErrForm},
		{"a ring twice", laid(3, ring(0, 1, 2), ring(0, 1, 2)), api.ErrForm},
		{"too heavy", api.Graph{N: 2, Edges: []api.Edge{{A: 0, B: 1, W: api.MaxWeight + 1}}}, api.ErrRange},
		{"too light", api.Graph{N: 2, Edges: []api.Edge{{A: 0, B: 1, W: math.MinInt64}}}, api.ErrRange},
		{"a ring, too heavy", api.Graph{N: 3, Edges: []api.Edge{{A: 0, B: 1}, {A: 1, B: 2}, {A: 2, B: 0, W: math.MaxInt64}}}, api.ErrRange},
	}
}

func expectGreedyWrong(t *testing.T, name string, g api.Graph, order []int, want api.Errno) {
	t.Helper()
	if colours, err := Greedy(g, order); err != want || len(colours) != 0 {
		t.Errorf("Greedy of %s, %v, by %v: %v, %d, want %d", name, g, order, colours, err, want)
	}
}

func expectCountWrong(t *testing.T, name string, g api.Graph, k int, want api.Errno) {
	t.Helper()
	if count, err := Count(g, k); err != want || count != 0 {
		t.Errorf("Count of %s, %v, by %d: %d, %d, want %d", name, g, k, count, err, want)
	}
}

// A1, P2: each call tells first what is wrong with the graph, and nothing else with it, also if the order or the number of colours is wrong besides.
func TestWrongGraphs(t *testing.T) {
	for _, c := range wrongGraphs() {
		if k, colours, err := Least(c.g); err != c.want || k != 0 || len(colours) != 0 {
			t.Errorf("Least of %s: %d, %v, %d, want %d", c.name, k, colours, err, c.want)
		}
		for _, order := range [][]int{nil, {0}, {0, 1}, {0, 1, 2}, {2, 2, 2}, {0, 1, 3}, {-1}, upTo(10), upTo(11), {math.MinInt, math.MaxInt}} {
			expectGreedyWrong(t, c.name, c.g, order, c.want)
		}
		for _, k := range []int{math.MinInt, -1, 0, 1, 3, 12, 13, math.MaxInt} {
			expectCountWrong(t, c.name, c.g, k, c.want)
		}
		if count, err := Turned(c.g); err != c.want || count != 0 {
			t.Errorf("Turned of %s: %d, %d, want %d", c.name, count, err, c.want)
		}
	}
}

// M1: the order has not each node just once.
func TestWrongOrders(t *testing.T) {
	graphs := []api.Graph{{N: 3}, laid(3, row(0, 1, 2)), laid(3, ring(0, 1, 2))}
	for _, g := range graphs {
		for _, order := range [][]int{
			nil, {}, {0}, {2, 1}, {0, 0}, {3, 3}, {0, 1, 2, 0}, {0, 1, 2, 3}, {0, 1, 2, -1}, {0, 0, 1, 2}, {0, 1, 2, 2, 1, 0},
			{0, 0, 0}, {0, 1, 1}, {1, 0, 1}, {2, 2, 1}, {0, 1, 3}, {3, 1, 0}, {-1, 1, 0}, {0, -1, 2}, {1, 2, 3},
			{0, 1, math.MaxInt}, {math.MinInt, 1, 2}, {0, 1 << 32, 2}, {0, 1, 1<<32 + 2}, {0, 1, 34}, {0, 1, 66}, {-3, -2, -1},
			make([]int, 1000), upTo(1000),
		} {
			expectGreedyWrong(t, "an order", g, order, api.ErrArg)
		}
	}
	for _, order := range [][]int{{0}, {-1}, {0, 0}, {0, 1}, {math.MinInt}, {math.MaxInt}} {
		expectGreedyWrong(t, "an order of nothing", api.Graph{}, order, api.ErrArg)
	}
	for _, order := range [][]int{nil, {1}, {-1}, {0, 0}, {0, 1}} {
		expectGreedyWrong(t, "an order of one node", api.Graph{N: 1}, order, api.ErrArg)
	}
}

// M1: ten nodes, one of them twice, instead of each other one; one too many, or too few.
func TestWrongOrdersOfTen(t *testing.T) {
	for _, g := range []api.Graph{{N: 10}, laid(10, ring(upTo(10)...)), chosen(10, 1<<45-1)} {
		for place := range 10 {
			expectGreedyWrong(t, "one too few", g, slices.Delete(upTo(10), place, place+1), api.ErrArg)
			for _, bad := range []int{-1, 10, 11, 32, 64, place + 32, place + 64, -place - 1} {
				order := upTo(10)
				order[place] = bad
				expectGreedyWrong(t, "one no node", g, order, api.ErrArg)
				expectGreedyWrong(t, "one too many", g, append(upTo(10), bad), api.ErrArg)
			}
			for again := range 10 {
				if again != place {
					order := upTo(10)
					order[place] = again
					expectGreedyWrong(t, "one twice", g, order, api.ErrArg)
				}
				expectGreedyWrong(t, "one twice besides", g, slices.Insert(upTo(10), place, again), api.ErrArg)
			}
		}
	}
}

// M2: the number of colours is out of range, whatever the graph.
func TestWrongNumbers(t *testing.T) {
	for _, g := range []api.Graph{{}, {N: 1}, {N: 10}, laid(3, ring(0, 1, 2)), chosen(10, 1<<45-1)} {
		for _, k := range []int{-1, -2, -12, math.MinInt, 13, 14, 1 << 32, 1<<32 + 3, math.MaxInt} {
			expectCountWrong(t, "a number", g, k, api.ErrRange)
		}
	}
}

// P3: the graph and the order that are handed in are neither changed nor read behind their lengths, and no answer is kept.
func TestArgumentsAreLeftAlone(t *testing.T) {
	edges := []api.Edge{{A: 2, B: 0, W: 5}, {A: 3, B: 2}, {A: 1, B: 3, W: -4}, {A: 0, B: 1}, {A: 7, B: 7, W: math.MaxInt64}}
	order := []int{0, 1, 3, 2, 2, -1}
	edgesBefore, orderBefore := slices.Clone(edges), slices.Clone(order)
	for range 2 {
		g := api.Graph{N: 4, Edges: edges[:3]}
		expectLeast(t, "a piece of a list", g, 2, []int{0, 1, 1, 0})
		expectGreedy(t, "a piece of a list", g, order[:4], []int{0, 0, 2, 1})
		expectCount(t, "a piece of a list", g, 3, 24)
		expectTurned(t, "a piece of a list", g, 8)
		expectGreedyWrong(t, "a longer piece", g, order[:5], api.ErrArg)
		_, colours, _ := Least(g)
		greedy, _ := Greedy(g, order[:4])
		for _, list := range [][]int{colours[:cap(colours)], greedy[:cap(greedy)]} {
			for i := range list {
				list[i] = 99
			}
		}
		if !slices.Equal(edges, edgesBefore) || !slices.Equal(order, orderBefore) {
			t.Errorf("the edges became %v, the order %v", edges, order)
		}
	}
}

// P3: what is answered is the same each time.
func TestAgain(t *testing.T) {
	for seed := range uint(100) {
		g := joined(3, seed)
		k, colours, _ := Least(g)
		count, _ := Count(g, 5)
		turned, _ := Turned(g)
		greedy, _ := Greedy(g, shuffled(10, seed))
		for range 3 {
			expectLeast(t, "again", g, k, colours)
			expectCount(t, "again", g, 5, count)
			expectTurned(t, "again", g, turned)
			expectGreedy(t, "again", g, shuffled(10, seed), greedy)
		}
	}
}
