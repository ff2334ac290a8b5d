package crowd

import (
	"math"
	"math/bits"
	"slices"
	"testing"

	"teamster/api"
	"teamster/bonds"
)

// graphOf makes a graph of n nodes from pairs of nodes; the weights differ, as nothing hangs on them.
func graphOf(n int, pairs ...[2]int) api.Graph {
	g := api.Graph{N: n}
	for i, p := range pairs {
		g.Edges = append(g.Edges, api.Edge{A: p[0], B: p[1], W: int64(3 - i)})
	}
	return g
}

// allPairs: each two of n nodes, every other one turned round.
func allPairs(n int) [][2]int {
	var pairs [][2]int
	for b := range n {
		for a := range b {
			p := [2]int{a, b}
			if len(pairs)%2 == 1 {
				p = [2]int{b, a}
			}
			pairs = append(pairs, p)
		}
	}
	return pairs
}

// chosen takes of all pairs of n nodes those that the choice has.
func chosen(n int, choice uint) api.Graph {
	var pairs [][2]int
	for i, p := range allPairs(n) {
		if choice>>i&1 == 1 {
			pairs = append(pairs, p)
		}
	}
	return graphOf(n, pairs...)
}

// row: a way through these nodes.
func row(nodes ...int) [][2]int {
	var pairs [][2]int
	for i := range len(nodes) - 1 {
		pairs = append(pairs, [2]int{nodes[i], nodes[i+1]})
	}
	return pairs
}

// ring: a way through these nodes and back to the first.
func ring(nodes ...int) [][2]int {
	return row(append(slices.Clone(nodes), nodes[0])...)
}

// full: an edge between each two of these nodes.
func full(nodes ...int) [][2]int {
	var pairs [][2]int
	for _, p := range allPairs(len(nodes)) {
		pairs = append(pairs, [2]int{nodes[p[0]], nodes[p[1]]})
	}
	return pairs
}

// between: an edge from each of the one to each of the other nodes.
func between(one, other []int) [][2]int {
	var pairs [][2]int
	for _, a := range one {
		for _, b := range other {
			pairs = append(pairs, [2]int{a, b})
		}
	}
	return pairs
}

// laid makes a graph of n nodes from lists of pairs.
func laid(n int, all ...[][2]int) api.Graph {
	return graphOf(n, slices.Concat(all...)...)
}

// without: the same pairs, but for one of them.
func without(pairs [][2]int, a, b int) [][2]int {
	return slices.DeleteFunc(slices.Clone(pairs), func(p [2]int) bool {
		return p == [2]int{a, b} || p == [2]int{b, a}
	})
}

// crown: ten nodes, two by two; those of two sides have an edge, but for the two of a pair.
func crown() api.Graph {
	pairs := between([]int{0, 2, 4, 6, 8}, []int{1, 3, 5, 7, 9})
	for i := range 5 {
		pairs = without(pairs, 2*i, 2*i+1)
	}
	return graphOf(10, pairs...)
}

// star5 has a ring of five, another one that skips every other node, and an edge from each node of the one to one of the other.
func star5() api.Graph {
	return laid(10, ring(0, 1, 2, 3, 4), ring(5, 7, 9, 6, 8), row(0, 5), row(1, 6), row(2, 7), row(3, 8), row(4, 9))
}

// upTo: the numbers from 0 on, ahead of count.
func upTo(count int) []int {
	var list []int
	for i := range count {
		list = append(list, i)
	}
	return list
}

// spread: a number that looks as if it came from nowhere, the same each time.
func spread(seed uint) uint {
	seed = (seed + 1) * 0x9E3779B97F4A7C15
	seed = (seed ^ seed>>30) * 0xBF58476D1CE4E5B9
	seed = (seed ^ seed>>27) * 0x94D049BB133111EB
	return seed ^ seed>>31
}

// shuffled: the numbers below n in some order.
func shuffled(n int, seed uint) []int {
	list := make([]int, n)
	for i := range list {
		j := int(spread(seed*16+uint(i)) % uint(i+1))
		list[i], list[j] = list[j], i
	}
	return list
}

// scattered: a graph of n nodes that has of each eight pairs about so many.
func scattered(n int, dense, seed uint) api.Graph {
	var pairs [][2]int
	for i, p := range allPairs(n) {
		if spread(seed*64+uint(i))%8 < dense {
			pairs = append(pairs, p)
		}
	}
	return graphOf(n, pairs...)
}

// told: what the three calls are to tell.
type told struct{ most, apart, cover uint32 }

func expect(t *testing.T, name string, g api.Graph, want told) {
	t.Helper()
	if set, err := Most(g); err != api.OK || set != want.most {
		t.Errorf("Most of %s, %v: %b, %d, want %b", name, g, set, err, want.most)
	}
	if set, err := Apart(g); err != api.OK || set != want.apart {
		t.Errorf("Apart of %s, %v: %b, %d, want %b", name, g, set, err, want.apart)
	}
	if set, err := Cover(g); err != api.OK || set != want.cover {
		t.Errorf("Cover of %s, %v: %b, %d, want %b", name, g, set, err, want.cover)
	}
}

// wordOf: a set as a word.
func wordOf(nodes ...int) uint32 {
	word := uint32(0)
	for _, node := range nodes {
		word |= 1 << node
	}
	return word
}

type handCase struct {
	name               string
	g                  api.Graph
	most, apart, cover []int
}

// smallCases: the edges that have to do with few nodes or edges.
func smallCases() []handCase {
	return []handCase{
		{"nothing", api.Graph{}, nil, nil, nil},
		{"nothing, an empty list", api.Graph{Edges: []api.Edge{}}, nil, nil, nil},
		{"one node", api.Graph{N: 1}, []int{0}, []int{0}, nil},
		{"two nodes without an edge", api.Graph{N: 2}, []int{0}, []int{0, 1}, nil},
		{"ten nodes without an edge", api.Graph{N: 10}, []int{0}, upTo(10), nil},
		{"one edge", laid(2, row(0, 1)), []int{0, 1}, []int{0}, []int{0}},
		{"one edge, turned round", laid(2, row(1, 0)), []int{0, 1}, []int{0}, []int{0}},
		{"an edge past a node", laid(3, row(0, 2)), []int{0, 2}, []int{0, 1}, []int{0}},
		{"an edge behind a node", laid(3, row(2, 1)), []int{1, 2}, []int{0, 1}, []int{1}},
		{"an edge ahead of a node", laid(3, row(1, 0)), []int{0, 1}, []int{0, 2}, []int{0}},
		{"the first and the last of ten", laid(10, row(9, 0)), []int{0, 9}, upTo(9), []int{0}},
		{"the last two of ten", laid(10, row(9, 8)), []int{8, 9}, upTo(9), []int{8}},
		{"three in a row", laid(3, row(0, 1, 2)), []int{0, 1}, []int{0, 2}, []int{1}},
		{"three, the greatest in the middle", laid(3, row(0, 2, 1)), []int{0, 2}, []int{0, 1}, []int{2}},
		{"three, the least in the middle", laid(3, row(1, 0, 2)), []int{0, 1}, []int{1, 2}, []int{0}},
		{"all edges of three", laid(3, ring(0, 1, 2)), []int{0, 1, 2}, []int{0}, []int{0, 1}},
		{"the chapter's example", laid(4, row(0, 1, 2, 3)), []int{0, 1}, []int{0, 2}, []int{0, 2}},
		{"a row for which the rest of the one is not the other", laid(4, row(0, 2, 3, 1)), []int{0, 2}, []int{0, 1}, []int{1, 2}},
		{"two rows of two in one another", laid(4, row(0, 2), row(1, 3)), []int{0, 2}, []int{0, 1}, []int{0, 1}},
		{"two rows of two, one round the other", laid(4, row(0, 3), row(1, 2)), []int{1, 2}, []int{0, 1}, []int{0, 1}},
		{"a star, its hub first", laid(4, between([]int{0}, []int{1, 2, 3})), []int{0, 1}, []int{1, 2, 3}, []int{0}},
		{"a star, its hub last", laid(4, between([]int{3}, []int{0, 1, 2})), []int{0, 3}, []int{0, 1, 2}, []int{3}},
		{"all edges of four but one", laid(4, without(full(0, 1, 2, 3), 0, 3)), []int{0, 1, 2}, []int{0, 3}, []int{1, 2}},
		{"all edges of four but another one", laid(4, without(full(0, 1, 2, 3), 0, 1)), []int{0, 2, 3}, []int{0, 1}, []int{2, 3}},
	}
}

// ringCases: even and odd rings, alone and with more.
func ringCases() []handCase {
	return []handCase{
		{"a ring of four", laid(4, ring(0, 1, 2, 3)), []int{0, 1}, []int{0, 2}, []int{0, 2}},
		{"a ring of four, mixed", laid(4, ring(0, 1, 3, 2)), []int{0, 1}, []int{1, 2}, []int{1, 2}},
		{"a ring of five", laid(5, ring(0, 1, 2, 3, 4)), []int{0, 1}, []int{0, 2}, []int{0, 1, 3}},
		{"a ring of five, mixed", laid(5, ring(0, 2, 4, 1, 3)), []int{0, 2}, []int{0, 1}, []int{0, 1, 2}},
		{"a ring of six", laid(6, ring(upTo(6)...)), []int{0, 1}, []int{0, 2, 4}, []int{0, 2, 4}},
		{"a ring of seven", laid(7, ring(upTo(7)...)), []int{0, 1}, []int{0, 2, 4}, []int{0, 1, 3, 5}},
		{"a ring of nine", laid(9, ring(upTo(9)...)), []int{0, 1}, []int{0, 2, 4, 6}, []int{0, 1, 3, 5, 7}},
		{"a ring of nine, and a node", laid(10, ring(1, 2, 3, 4, 5, 6, 7, 8, 9)), []int{1, 2}, []int{0, 1, 3, 5, 7}, []int{1, 2, 4, 6, 8}},
		{"a ring of ten", laid(10, ring(upTo(10)...)), []int{0, 1}, []int{0, 2, 4, 6, 8}, []int{0, 2, 4, 6, 8}},
		{"a row of ten", laid(10, row(upTo(10)...)), []int{0, 1}, []int{0, 2, 4, 6, 8}, []int{0, 2, 4, 6, 8}},
		{"a ring of eight, and one with an edge to each", laid(9, ring(1, 2, 3, 4, 5, 6, 7, 8), between([]int{0}, []int{1, 2, 3, 4, 5, 6, 7, 8})),
			[]int{0, 1, 2}, []int{1, 3, 5, 7}, []int{0, 1, 3, 5, 7}},
		{"two of three, tied", laid(6, ring(0, 1, 2), ring(3, 4, 5), row(0, 3), row(1, 4), row(2, 5)), []int{0, 1, 2}, []int{1, 3}, []int{0, 2, 3, 4}},
		{"two rings of five, tied", star5(), []int{0, 1}, []int{2, 4, 5, 6}, []int{1, 3, 4, 5, 6, 7}},
	}
}

// greatCases: the edges that have to do with many edges, or with two sides.
func greatCases() []handCase {
	all := full(upTo(10)...)
	coupled := all
	for i := range 5 {
		coupled = without(coupled, 2*i, 2*i+1)
	}
	return []handCase{
		{"all edges of ten", laid(10, all), upTo(10), []int{0}, upTo(9)},
		{"all edges of ten but the first", laid(10, without(all, 0, 1)), []int{0, 2, 3, 4, 5, 6, 7, 8, 9}, []int{0, 1}, []int{2, 3, 4, 5, 6, 7, 8, 9}},
		{"all edges of ten but the last", laid(10, without(all, 9, 8)), upTo(9), []int{8, 9}, upTo(8)},
		{"all edges of ten but two", laid(10, without(without(all, 2, 7), 3, 6)), []int{0, 1, 2, 3, 4, 5, 8, 9}, []int{3, 6}, []int{0, 1, 3, 4, 5, 6, 8, 9}},
		{"all edges of ten but for pairs", laid(10, coupled), []int{0, 2, 4, 6, 8}, []int{0, 1}, upTo(8)},
		{"all edges of nine, and a node", laid(10, full(upTo(9)...)), upTo(9), []int{0, 9}, upTo(8)},
		{"a node, and all edges of nine", laid(10, full(1, 2, 3, 4, 5, 6, 7, 8, 9)), []int{1, 2, 3, 4, 5, 6, 7, 8, 9}, []int{0, 1}, []int{1, 2, 3, 4, 5, 6, 7, 8}},
		{"a star of ten, its hub first", laid(10, between([]int{0}, []int{1, 2, 3, 4, 5, 6, 7, 8, 9})), []int{0, 1}, []int{1, 2, 3, 4, 5, 6, 7, 8, 9}, []int{0}},
		{"a star of ten, its hub last", laid(10, between([]int{9}, upTo(9))), []int{0, 9}, upTo(9), []int{9}},
		{"two sides", laid(10, between([]int{0, 1, 2, 3, 4}, []int{5, 6, 7, 8, 9})), []int{0, 5}, []int{0, 1, 2, 3, 4}, []int{0, 1, 2, 3, 4}},
		{"two sides, mixed", laid(10, between([]int{1, 3, 5, 7, 9}, []int{0, 2, 4, 6, 8})), []int{0, 1}, []int{0, 2, 4, 6, 8}, []int{0, 2, 4, 6, 8}},
		{"seven and three", laid(10, between(upTo(7), []int{7, 8, 9})), []int{0, 7}, upTo(7), []int{7, 8, 9}},
		{"three and seven", laid(10, between([]int{0, 1, 2}, []int{3, 4, 5, 6, 7, 8, 9})), []int{0, 3}, []int{3, 4, 5, 6, 7, 8, 9}, []int{0, 1, 2}},
		{"two sides but for pairs", crown(), []int{1, 2}, []int{0, 2, 4, 6, 8}, []int{0, 2, 4, 6, 8}},
	}
}

// partCases: graphs of several parts.
func partCases() []handCase {
	return []handCase{
		{"three, two and one", laid(6, ring(0, 1, 2), row(3, 4)), []int{0, 1, 2}, []int{0, 3, 5}, []int{0, 1, 3}},
		{"one, two and three", laid(6, row(1, 2), ring(3, 4, 5)), []int{3, 4, 5}, []int{0, 1, 3}, []int{1, 3, 4}},
		{"three, three and four in one another", laid(10, full(0, 3, 6), full(1, 4, 7), full(2, 5, 8, 9)), []int{2, 5, 8, 9}, []int{0, 1, 2}, []int{0, 1, 2, 3, 4, 5, 8}},
		{"five times two", laid(10, row(0, 9), row(8, 1), row(2, 7), row(6, 3), row(4, 5)), []int{4, 5}, []int{0, 1, 2, 3, 4}, []int{0, 1, 2, 3, 4}},
		{"all edges of five, two, and three nodes", laid(10, full(5, 6, 7, 8, 9), row(0, 1)), []int{5, 6, 7, 8, 9}, []int{0, 2, 3, 4, 5}, []int{0, 5, 6, 7, 8}},
		{"the lesser word is not that with the lesser first node", laid(6, ring(0, 4, 5), ring(1, 2, 3)), []int{1, 2, 3}, []int{0, 1}, []int{0, 1, 2, 4}},
		{"two stars", laid(8, between([]int{3}, []int{0, 5, 6}), between([]int{4}, []int{1, 2, 7})), []int{0, 3}, []int{0, 1, 2, 5, 6, 7}, []int{3, 4}},
	}
}

// N1: the chapter's example, and others that are worked out by hand.
func TestByHand(t *testing.T) {
	for _, c := range slices.Concat(smallCases(), ringCases(), greatCases(), partCases()) {
		expect(t, c.name, c.g, told{wordOf(c.most...), wordOf(c.apart...), wordOf(c.cover...)})
	}
}

// N1: some by number, as the chapter tells its example.
func TestByNumber(t *testing.T) {
	for _, c := range []struct {
		name string
		g    api.Graph
		want told
	}{
		{"nothing", api.Graph{}, told{0, 0, 0}},
		{"one node", api.Graph{N: 1}, told{1, 1, 0}},
		{"the chapter's example", laid(4, row(0, 1, 2, 3)), told{3, 5, 5}},
		{"ten nodes without an edge", api.Graph{N: 10}, told{1, 1023, 0}},
		{"all edges of ten", chosen(10, 1<<45-1), told{1023, 1, 511}},
		{"a ring of nine", laid(9, ring(upTo(9)...)), told{3, 85, 171}},
		{"a ring of ten", laid(10, ring(upTo(10)...)), told{3, 341, 341}},
		{"a star", laid(10, between([]int{9}, upTo(9))), told{513, 511, 512}},
		{"two rings of five, tied", star5(), told{3, 116, 250}},
	} {
		expect(t, c.name, c.g, c.want)
	}
}

// byTrial goes through all sets of nodes from the greatest word to the least one, and keeps of each kind the last of the best.
func byTrial(g api.Graph) told {
	best := told{cover: 1<<g.N - 1}
	for word := 1<<g.N - 1; word >= 0; word-- {
		within, met := 0, 0
		for _, e := range g.Edges {
			switch word>>e.A&1 + word>>e.B&1 {
			case 2:
				within++
				met++
			case 1:
				met++
			}
		}
		set, members := uint32(word), bits.OnesCount(uint(word))
		if 2*within == members*(members-1) && members >= bits.OnesCount32(best.most) {
			best.most = set
		}
		if within == 0 && members >= bits.OnesCount32(best.apart) {
			best.apart = set
		}
		if met == len(g.Edges) && members <= bits.OnesCount32(best.cover) {
			best.cover = set
		}
	}
	return best
}

// haveEdge says whether two nodes have an edge.
func haveEdge(g api.Graph, a, b int) bool {
	return slices.ContainsFunc(g.Edges, func(e api.Edge) bool {
		return e.A == a && e.B == b || e.A == b && e.B == a
	})
}

// grown builds up all sets of which each two fit, node by node from the greatest one down: a set with the greatest node is worth it only if without it there are none with as many members.
func grown(nodes []int, fit func(a, b int) bool) []int {
	if len(nodes) == 0 {
		return nil
	}
	less, last := nodes[:len(nodes)-1], nodes[len(nodes)-1]
	var friends []int
	for _, node := range less {
		if fit(node, last) {
			friends = append(friends, node)
		}
	}
	with, out := append(grown(friends, fit), last), grown(less, fit)
	if len(with) > len(out) {
		return with
	}
	return out
}

// coverByEdges takes of the first edge that is not met the one node or the other one, and so on; of all sets that come of it, it gives the best.
func coverByEdges(g api.Graph, set uint32) uint32 {
	for _, e := range g.Edges {
		if set>>e.A&1 == 1 || set>>e.B&1 == 1 {
			continue
		}
		one, other := coverByEdges(g, set|1<<e.A), coverByEdges(g, set|1<<e.B)
		fewer := bits.OnesCount32(one) - bits.OnesCount32(other)
		if fewer < 0 || fewer == 0 && one < other {
			return one
		}
		return other
	}
	return set
}

// bySteps tells of a graph what byTrial does, in another way.
func bySteps(g api.Graph) told {
	linked := func(a, b int) bool { return haveEdge(g, a, b) }
	strange := func(a, b int) bool { return !haveEdge(g, a, b) }
	return told{wordOf(grown(upTo(g.N), linked)...), wordOf(grown(upTo(g.N), strange)...), coverByEdges(g, 0)}
}

// N1: all graphs of up to six nodes, against trial; those of up to five also in another way.
func TestAllSmall(t *testing.T) {
	graphs, unlike := 0, 0
	for n := range 7 {
		for choice := range uint(1) << (n * (n - 1) / 2) {
			g := chosen(n, choice)
			want := byTrial(g)
			if n < 6 {
				if other := bySteps(g); other != want {
					t.Fatalf("the two ways to know of %v tell %v and %v", g, want, other)
				}
			}
			expect(t, "one of all", g, want)
			if want.apart^want.cover != 1<<n-1 {
				unlike++
			}
			graphs++
		}
	}
	if graphs != 1+1+2+8+64+1024+32768 || unlike < 10000 {
		t.Errorf("a poor spread: %d, %d", graphs, unlike)
	}
}

// N1: a spread of graphs of seven to ten nodes, with few edges and with many, in two ways.
func TestGreater(t *testing.T) {
	var most, apart [11]int
	for seed := range uint(1600) {
		g := scattered(7+int(seed%4), 1+seed/4%8, seed)
		want := byTrial(g)
		if seed < 400 {
			if other := bySteps(g); other != want {
				t.Fatalf("the two ways to know of %v tell %v and %v", g, want, other)
			}
		}
		expect(t, "one of many", g, want)
		most[bits.OnesCount32(want.most)]++
		apart[bits.OnesCount32(want.apart)]++
	}
	if slices.Min(most[2:7]) < 50 || slices.Min(apart[1:8]) < 20 {
		t.Errorf("a poor spread: %v, %v", most, apart)
	}
}

// twoSided: a graph of ten nodes in two sets, of which some of the pairs that are not in one set have an edge.
func twoSided(seed uint) api.Graph {
	place := shuffled(10, seed)
	var pairs [][2]int
	for i, p := range allPairs(10) {
		if place[p[0]]%2 != place[p[1]]%2 && spread(seed*64+uint(i))%8 < 1+seed%6 {
			pairs = append(pairs, p)
		}
	}
	return graphOf(10, pairs...)
}

// N1: of two sides no cover has fewer members than there are pairs in a bond, and one has as many; nor is there a set of three all of which have an edge.
func TestTwoSides(t *testing.T) {
	var met [6]int
	for seed := range uint(1000) {
		g := twoSided(seed)
		bond, _ := bonds.Most(g)
		want := byTrial(g)
		expect(t, "two sides", g, want)
		members := bits.OnesCount32(want.cover)
		if members != len(bond) || bits.OnesCount32(want.most) > 2 || members+bits.OnesCount32(want.apart) != 10 {
			t.Errorf("%v: %v, but a bond of %d", g, want, len(bond))
		}
		met[members]++
	}
	if slices.Min(met[3:]) < 50 {
		t.Errorf("a poor spread: %v", met)
	}
}

// others: the graph that has just the edges that this one lacks.
func others(g api.Graph) api.Graph {
	var pairs [][2]int
	for _, p := range allPairs(g.N) {
		if !haveEdge(g, p[0], p[1]) {
			pairs = append(pairs, p)
		}
	}
	return graphOf(g.N, pairs...)
}

// N1: who has an edge all with all has none with any, where all edges are those that were lacking.
func TestTheOtherEdges(t *testing.T) {
	for seed := range uint(500) {
		g := scattered(8+int(seed%3), 1+seed/3%7, seed+3000)
		rest := others(g)
		if len(g.Edges)+len(rest.Edges) != g.N*(g.N-1)/2 {
			t.Fatalf("%v and %v are not all edges", g, rest)
		}
		want := byTrial(g)
		want.most, want.apart = want.apart, want.most
		want.cover = byTrial(rest).cover
		expect(t, "the other edges", rest, want)
	}
}

// N1: in what order the edges stand, how they are turned and what they weigh does not matter.
func TestEdgesInAnyOrder(t *testing.T) {
	for seed := range uint(500) {
		g := scattered(10, 1+seed%8, seed+900)
		other := api.Graph{N: 10}
		for _, place := range shuffled(len(g.Edges), seed) {
			e := g.Edges[place]
			if spread(seed*64+uint(place))%2 == 0 {
				e.A, e.B = e.B, e.A
			}
			e.W = int64(spread(seed*64+uint(place)+7)%(2*api.MaxWeight+1)) - api.MaxWeight
			other.Edges = append(other.Edges, e)
		}
		expect(t, "the same mixed", other, byTrial(g))
	}
	for _, w := range []int64{-api.MaxWeight, -1, 0, 1, api.MaxWeight} {
		g := laid(4, row(0, 1, 2, 3))
		g.Edges[0].W, g.Edges[2].W = w, -w
		expect(t, "the chapter's example, with weights", g, told{3, 5, 5})
	}
}

// heavy: one edge with this weight, and behind it these pairs.
func heavy(n int, w int64, pairs ...[2]int) api.Graph {
	g := graphOf(n, append([][2]int{{0, 1}}, pairs...)...)
	g.Edges[0].W = w
	return g
}

// A1, P2: each call tells what is wrong with the graph, and nothing else.
func TestWrongGraphs(t *testing.T) {
	for _, c := range []struct {
		name string
		g    api.Graph
		want api.Errno
	}{
		{"N -1", api.Graph{N: -1}, api.ErrLarge},
		{"N least", api.Graph{N: math.MinInt}, api.ErrLarge},
		{"N 11", api.Graph{N: api.MaxNodes + 1}, api.ErrLarge},
		{"N 11, a row", laid(11, row(0, 1, 2)), api.ErrLarge},
		{"N 11, a wrong edge", laid(11, row(3, 3)), api.ErrLarge},
		{"N 32", api.Graph{N: 32}, api.ErrLarge},
		{"N 2 to the power of 32", api.Graph{N: 1 << 32}, api.ErrLarge},
		{"N greatest", api.Graph{N: math.MaxInt}, api.ErrLarge},
		{"46 edges", api.Graph{N: 10, Edges: make([]api.Edge, api.MaxEdges+1)}, api.ErrLarge},
		{"46 edges, one of them twice", graphOf(10, append(allPairs(10), [2]int{0, 1})...), api.ErrLarge},
		{"46 edges, no node", api.Graph{Edges: make([]api.Edge, api.MaxEdges+1)}, api.ErrLarge},
		{"no node, an edge", laid(0, row(0, 1)), api.ErrArg},
		{"an end below", laid(3, row(0, 1, -1)), api.ErrArg},
		{"an end above", laid(3, row(0, 1, 3)), api.ErrArg},
		{"an end above, first", laid(3, row(3, 1, 0)), api.ErrArg},
		{"ends far off", laid(3, row(math.MinInt, math.MaxInt)), api.ErrArg},
		{"an end too far to be told", laid(3, row(0, 1<<32+1)), api.ErrArg},
		{"no node has an edge with itself", laid(3, row(5, 5)), api.ErrArg},
		{"an edge with one end", laid(3, row(0, 1, 2, 2)), api.ErrForm},
		{"an edge there and back", laid(3, ring(0, 1)), api.ErrForm},
		{"a row twice", laid(3, row(0, 1, 2), row(0, 1, 2)), api.ErrForm},
		{"too heavy", heavy(2, api.MaxWeight+1), api.ErrRange},
		{"too light", heavy(2, -api.MaxWeight-1), api.ErrRange},
		{"far too heavy", heavy(2, math.MaxInt64), api.ErrRange},
		{"far too light", heavy(2, math.MinInt64), api.ErrRange},
		{"too heavy ahead of no node", heavy(3, math.MaxInt64, [2]int{0, 3}), api.ErrRange},
		{"too light ahead of one end", heavy(3, math.MinInt64, [2]int{2, 2}), api.ErrRange},
		{"no node ahead of one end", laid(3, row(0, 3), row(1, 1)), api.ErrArg},
		{"one end ahead of no node", laid(3, row(1, 1), row(0, 3)), api.ErrForm},
		{"an edge twice ahead of no node", laid(3, row(1, 0, 1, 3)), api.ErrForm},
	} {
		for name, call := range map[string]func(api.Graph) (uint32, api.Errno){"Most": Most, "Apart": Apart, "Cover": Cover} {
			if set, err := call(c.g); err != c.want || set != 0 {
				t.Errorf("%s of %s: %b, %d, want %d", name, c.name, set, err, c.want)
			}
		}
	}
}

// P3: the edges that are handed in are neither changed nor read behind their length.
func TestArgumentsAreLeftAlone(t *testing.T) {
	edges := append(laid(4, row(3, 2, 1, 0)).Edges, api.Edge{A: 0, B: 2}, api.Edge{A: 7, B: 7, W: math.MaxInt64})
	before := slices.Clone(edges)
	for range 2 {
		expect(t, "a piece of a list", api.Graph{N: 4, Edges: edges[:3]}, told{3, 5, 5})
		expect(t, "a longer piece", api.Graph{N: 4, Edges: edges[:4]}, told{7, 9, 5})
		expect(t, "none of it", api.Graph{N: 4, Edges: edges[:0]}, told{1, 15, 0})
		if set, err := Most(api.Graph{N: 4, Edges: edges}); err != api.ErrArg || set != 0 {
			t.Errorf("Most of all of it: %b, %d", set, err)
		}
	}
	if !slices.Equal(edges, before) {
		t.Errorf("the edges became %v", edges)
	}
}

// P3: what is answered is the same each time.
func TestAgain(t *testing.T) {
	for seed := range uint(200) {
		g := scattered(10, 1+seed%8, seed+7000)
		want := byTrial(g)
		for range 3 {
			expect(t, "again", g, want)
		}
	}
}
