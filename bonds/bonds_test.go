package bonds

import (
	"math"
	"math/bits"
	"slices"
	"testing"

	"teamster/api"
)

// graphOf makes a graph of n nodes from pairs of nodes; the weights differ, as nothing hangs on them.
func graphOf(n int, pairs ...[2]int) api.Graph {
	g := api.Graph{N: n}
	for i, p := range pairs {
		g.Edges = append(g.Edges, api.Edge{A: p[0], B: p[1], W: int64(3 - i)})
	}
	return g
}

// allPairs: each two of n nodes, every other one turned round.
func allPairs(n int) [][2]int {
	var pairs [][2]int
	for b := range n {
		for a := range b {
			p := [2]int{a, b}
			if len(pairs)%2 == 1 {
				p = [2]int{b, a}
			}
			pairs = append(pairs, p)
		}
	}
	return pairs
}

// row: a way through these nodes.
func row(nodes ...int) [][2]int {
	var pairs [][2]int
	for i := range len(nodes) - 1 {
		pairs = append(pairs, [2]int{nodes[i], nodes[i+1]})
	}
	return pairs
}

// ring: a way through these nodes and back to the first.
func ring(nodes ...int) [][2]int {
	return row(append(slices.Clone(nodes), nodes[0])...)
}

// star: the first one with each of the others.
func star(middle int, others ...int) [][2]int {
	var pairs [][2]int
	for _, other := range others {
		pairs = append(pairs, [2]int{middle, other})
	}
	return pairs
}

func laid(n int, all ...[][2]int) api.Graph {
	return graphOf(n, slices.Concat(all...)...)
}

// spread: a number that looks as if it came from nowhere, the same each time.
func spread(seed uint) uint {
	seed = (seed + 1) * 0x9E3779B97F4A7C15
	seed = (seed ^ seed>>30) * 0xBF58476D1CE4E5B9
	seed = (seed ^ seed>>27) * 0x94D049BB133111EB
	return seed ^ seed>>31
}

// chosen takes of all pairs of n nodes those that the choice has, in an order that hangs on the seed.
func chosen(n int, choice, seed uint) api.Graph {
	var pairs [][2]int
	for i, p := range allPairs(n) {
		if choice>>i&1 == 1 {
			pairs = append(pairs, p)
		}
	}
	for i := range pairs {
		j := int(spread(seed*64+uint(i)) % uint(i+1))
		pairs[i], pairs[j] = pairs[j], pairs[i]
	}
	return graphOf(n, pairs...)
}

// expectMost holds the bond of a graph against what it is to be.
func expectMost(t *testing.T, name string, g api.Graph, want []int) {
	t.Helper()
	if got, err := Most(g); err != api.OK || !slices.Equal(got, want) {
		t.Errorf("Most of %s, %v: %v, %d, want %v", name, g, got, err, want)
	}
}

// expectWall holds the wall of a graph against what it is to be.
func expectWall(t *testing.T, name string, g api.Graph, want uint32) {
	t.Helper()
	if got, err := Wall(g); err != api.OK || got != want {
		t.Errorf("Wall of %s, %v: %b, %d, want %b", name, g, got, err, want)
	}
}

// F1: the chapter's example, and others that are worked out by hand.
func TestMostByHand(t *testing.T) {
	for _, c := range []struct {
		name string
		g    api.Graph
		want []int
	}{
		{"the chapter's example", laid(4, star(0, 1, 2, 3)), []int{0}},
		{"no node", api.Graph{}, []int{}},
		{"no node, an empty list", api.Graph{Edges: []api.Edge{}}, []int{}},
		{"one node", api.Graph{N: 1}, []int{}},
		{"no edge", api.Graph{N: 10}, []int{}},
		{"one edge", laid(2, row(1, 0)), []int{0}},
		{"one edge of the greatest nodes", laid(10, row(8, 9)), []int{0}},
		{"two edges with a node in common", laid(3, row(2, 0, 1)), []int{0}},
		{"two edges apart", laid(4, row(0, 3), row(2, 1)), []int{0, 1}},
		{"a row of three edges, the middle first", laid(4, row(1, 2), row(0, 1), row(2, 3)), []int{1, 2}},
		{"a row of three edges, the middle last", laid(4, row(0, 1), row(2, 3), row(1, 2)), []int{0, 1}},
		{"a ring of three", laid(3, ring(0, 1, 2)), []int{0}},
		{"a ring of four", laid(4, ring(0, 1, 2, 3)), []int{0, 2}},
		{"a ring of five", laid(5, ring(0, 1, 2, 3, 4)), []int{0, 2}},
		{"a ring of five, mixed", laid(5, row(0, 1), row(1, 2), row(3, 4), row(2, 3), row(4, 0)), []int{0, 2}},
		{"the lesser second place", laid(5, star(0, 1), row(2, 3), row(3, 4), row(4, 2)), []int{0, 1}},
		{"places, not nodes", laid(4, row(2, 3), row(1, 3), row(0, 2), row(0, 1)), []int{0, 3}},
		{"the first place, though all else lies behind", laid(6, row(2, 3), row(0, 2), row(3, 4), row(0, 1), row(4, 5)), []int{0, 3, 4}},
		{"not the first place, as then one less", laid(6, row(1, 2), row(0, 1), row(2, 3), row(3, 4), row(4, 5)), []int{1, 2, 4}},
		{"two rings of three and an edge between", laid(6, row(2, 3), ring(0, 1, 2), ring(3, 4, 5)), []int{0, 1, 5}},
		{"all edges of ten", graphOf(10, allPairs(10)...), []int{0, 5, 14, 27, 44}},
		{"all edges of nine", graphOf(9, allPairs(9)...), []int{0, 5, 14, 27}},
		{"a row of ten", laid(10, row(0, 1, 2, 3, 4, 5, 6, 7, 8, 9)), []int{0, 2, 4, 6, 8}},
		{"a star of ten", laid(10, star(9, 8, 7, 6, 5, 4, 3, 2, 1, 0)), []int{0}},
	} {
		expectMost(t, c.name, c.g, c.want)
	}
}

// F2: the chapter's example, and others that are worked out by hand.
func TestWallByHand(t *testing.T) {
	for _, c := range []struct {
		name string
		g    api.Graph
		want uint32
	}{
		{"the chapter's example", laid(4, star(0, 1, 2, 3)), 1},
		{"no node", api.Graph{}, 0},
		{"no node, an empty list", api.Graph{Edges: []api.Edge{}}, 0},
		{"one node", api.Graph{N: 1}, 0},
		{"no edge", api.Graph{N: 10}, 0},
		{"one edge: nothing is as good as a node", laid(2, row(0, 1)), 0},
		{"two edges, the middle is the least", laid(3, row(1, 0, 2)), 0},
		{"a part with an odd number, no node needed", laid(3, ring(0, 1, 2)), 0},
		{"a part with an odd and one with an even number", laid(5, ring(0, 1, 2), row(3, 4)), 0},
		{"two parts with an odd number", laid(6, ring(0, 1, 2), row(3, 4, 5)), 0},
		{"the greatest node", laid(10, star(9, 0, 1, 2, 3, 4, 5, 6, 7, 8)), 1 << 9},
		{"the middle, not all round it", laid(4, star(2, 0, 1, 3)), 0b0100},
		{"parts with an even number don't count", laid(5, star(0, 1, 2), row(1, 3), row(2, 4)), 0},
		{"rings of three at one node", laid(10, star(3, 0, 4, 7), ring(0, 1, 2), ring(4, 5, 6), ring(7, 8, 9)), 0b1000},
		{"two stars", laid(8, star(1, 0, 2, 3), star(6, 4, 5, 7)), 0b1000010},
		{"two stars, linked", laid(8, star(1, 0, 2, 3), star(6, 4, 5, 7), row(1, 6)), 0b1000010},
		{"two against four", laid(6, star(1, 0, 2, 3, 5), star(4, 0, 2, 3, 5)), 0b010010},
		{"two against four, linked", laid(6, row(1, 4), star(1, 0, 2, 3, 5), star(4, 0, 2, 3, 5)), 0b010010},
		{"a star and a node for itself", laid(5, star(1, 0, 2, 3)), 0b10},
		{"a star of two is as good as nothing", laid(4, star(1, 0, 2)), 0},
		{"a star of two, and one of three", laid(7, star(1, 0, 2), star(4, 3, 5, 6)), 0b10000},
		{"a way past the wall, by greater nodes", laid(6, star(0, 1, 2, 3, 4), row(3, 5, 4)), 1},
		{"all edges of ten", graphOf(10, allPairs(10)...), 0},
		{"all edges of nine", graphOf(9, allPairs(9)...), 0},
		{"a ring of ten", laid(10, ring(0, 1, 2, 3, 4, 5, 6, 7, 8, 9)), 0},
	} {
		expectWall(t, c.name, c.g, c.want)
	}
}

// A1, P2: each call tells first what is wrong with the graph, and nothing else with it.
func TestWrongGraphs(t *testing.T) {
	for _, c := range []struct {
		name string
		g    api.Graph
		want api.Errno
	}{
		{"N -1", api.Graph{N: -1}, api.ErrLarge},
		{"N least", api.Graph{N: math.MinInt}, api.ErrLarge},
		{"N 11", api.Graph{N: api.MaxNodes + 1}, api.ErrLarge},
		{"N 11, a star", laid(11, star(0, 1, 2, 3)), api.ErrLarge},
		{"N 32", api.Graph{N: 32}, api.ErrLarge},
		{"N greatest", api.Graph{N: math.MaxInt}, api.ErrLarge},
		{"46 edges", api.Graph{N: 10, Edges: make([]api.Edge, api.MaxEdges+1)}, api.ErrLarge},
		{"46 edges, one of them twice", graphOf(10, append(allPairs(10), [2]int{0, 1})...), api.ErrLarge},
		{"no node, an edge", laid(0, row(0, 1)), api.ErrArg},
		{"an end below", laid(4, star(0, 1, 2, -1)), api.ErrArg},
		{"an end above", laid(4, star(0, 1, 2, 4)), api.ErrArg},
		{"ends far off", laid(3, row(math.MinInt, math.MaxInt)), api.ErrArg},
		{"an edge with one end", laid(4, star(0, 1, 2, 3), row(1, 1)), api.ErrForm},
		{"an edge there and back", laid(3, ring(0, 1)), api.ErrForm},
		{"a star twice", laid(4, star(0, 1, 2, 3), star(0, 1, 2, 3)), api.ErrForm},
		{"too heavy", api.Graph{N: 2, Edges: []api.Edge{{A: 0, B: 1, W: api.MaxWeight + 1}}}, api.ErrRange},
		{"too light", api.Graph{N: 2, Edges: []api.Edge{{A: 0, B: 1, W: math.MinInt64}}}, api.ErrRange},
		{"too heavy ahead of no node", api.Graph{N: 2, Edges: []api.Edge{{A: 0, B: 1, W: math.MaxInt64}, {A: 0, B: 2}}}, api.ErrRange},
		{"no node ahead of one end", api.Graph{N: 2, Edges: []api.Edge{{A: 0, B: 2}, {A: 1, B: 1}}}, api.ErrArg},
	} {
		if got, err := Most(c.g); err != c.want || len(got) != 0 {
			t.Errorf("Most of %s: %v, %d, want %d", c.name, got, err, c.want)
		}
		if got, err := Wall(c.g); err != c.want || got != 0 {
			t.Errorf("Wall of %s: %b, %d, want %d", c.name, got, err, c.want)
		}
	}
}

// F1: weights are not looked at, but for whether they are in range.
func TestWeightsDoNotMatter(t *testing.T) {
	for _, w := range []int64{-api.MaxWeight, -1, 0, 1, api.MaxWeight} {
		g := laid(4, row(0, 1), row(2, 3), row(0, 2), row(1, 3))
		g.Edges[0].W, g.Edges[3].W = w, -w
		expectMost(t, "weights", g, []int{0, 1})
		expectWall(t, "weights", g, 0)
	}
}

// mostByTrial goes through all bonds, those with the lesser place where two first differ first, and keeps the first one that has more edges than all ahead of it.
func mostByTrial(g api.Graph) []int {
	best := []int{}
	var bond []int
	var used [10]bool
	var try func(int)
	try = func(from int) {
		if len(bond) > len(best) {
			best = slices.Clone(bond)
		}
		for place := from; place < len(g.Edges); place++ {
			e := g.Edges[place]
			if used[e.A] || used[e.B] {
				continue
			}
			used[e.A], used[e.B] = true, true
			bond = append(bond, place)
			try(place + 1)
			bond = bond[:len(bond)-1]
			used[e.A], used[e.B] = false, false
		}
	}
	try(0)
	return best
}

// oddByTrial gives each node outside the wall the least one that it is linked with, step by step, and counts those that are had by an odd number.
func oddByTrial(g api.Graph, wall int) int {
	var least, count [10]int
	for node := range least {
		least[node] = node
	}
	in := func(node int) bool { return wall>>node&1 == 1 }
	for changed := true; changed; {
		changed = false
		for _, e := range g.Edges {
			if in(e.A) || in(e.B) || least[e.A] == least[e.B] {
				continue
			}
			low := min(least[e.A], least[e.B])
			least[e.A], least[e.B] = low, low
			changed = true
		}
	}
	for node := range g.N {
		if !in(node) {
			count[least[node]]++
		}
	}
	odd := 0
	for _, nodes := range count {
		odd += nodes % 2
	}
	return odd
}

// wallByTrial goes through all walls from the greatest word to the least one; it gives the best, and how many more odd parts it leaves than it has nodes.
func wallByTrial(g api.Graph) (uint32, int) {
	best, most := 0, math.MinInt
	for wall := 1<<g.N - 1; wall >= 0; wall-- {
		if over := oddByTrial(g, wall) - bits.OnesCount(uint(wall)); over >= most {
			best, most = wall, over
		}
	}
	return uint32(best), most
}

// expectTrial holds bond and wall of a graph against trial, and gives the wall.
// The wall shows why no more can be had: what is left over by the bond is what it leaves too much.
func expectTrial(t *testing.T, g api.Graph) uint32 {
	t.Helper()
	bond := mostByTrial(g)
	wall, over := wallByTrial(g)
	if g.N-2*len(bond) != over {
		t.Errorf("%v: the trials are at odds, %v and %b", g, bond, wall)
	}
	expectMost(t, "one of many", g, bond)
	expectWall(t, "one of many", g, wall)
	return wall
}

// F1, F2: all graphs of up to six nodes, their edges in some order, against trial.
func TestAllSmall(t *testing.T) {
	for n := range 7 {
		for choice := range uint(1) << len(allPairs(n)) {
			expectTrial(t, chosen(n, choice, choice))
		}
	}
}

// F1: all orders of the edges of a few graphs of five edges against trial.
func TestAllOrders(t *testing.T) {
	for _, edges := range [][][2]int{
		row(0, 1, 2, 3, 4, 5),
		ring(4, 1, 3, 0, 2),
		slices.Concat(ring(0, 1, 2), row(2, 3, 4)),
		slices.Concat(ring(0, 3, 2, 1), row(5, 1)),
		slices.Concat(star(3, 0, 1, 2), row(4, 5, 6)),
	} {
		var lay func(int)
		lay = func(at int) {
			if at == len(edges) {
				expectTrial(t, graphOf(7, edges...))
				return
			}
			for i := at; i < len(edges); i++ {
				edges[at], edges[i] = edges[i], edges[at]
				lay(at + 1)
				edges[at], edges[i] = edges[i], edges[at]
			}
		}
		lay(0)
	}
}

// spiked links some nodes with most of the others, and of the others some of those that are next to each other, seldom or often:
// without the few the others fall in parts with odd and with even numbers of nodes.
func spiked(n int, seed uint) api.Graph {
	few := uint(0)
	for i := uint(0); bits.OnesCount(few) < int(seed%5); i++ {
		few |= 1 << (spread(seed*64+i) % uint(n))
	}
	choice := uint(0)
	for i, p := range allPairs(n) {
		ends := few>>p[0]&1 + few>>p[1]&1
		luck := spread(seed*64 + uint(i))
		near := p[0]-p[1] == 1 || p[1]-p[0] == 1
		if ends > 0 && luck%4 < 3 || ends == 0 && near && luck%4 < seed/5%4 {
			choice |= 1 << i
		}
	}
	return chosen(n, choice, seed)
}

// F1, F2: a spread of graphs of seven to ten nodes, with walls of all sizes that there may be, against trial.
func TestAgainstTrial(t *testing.T) {
	met := [11]int{}
	for seed := range uint(300) {
		for n := 7; n <= 10; n++ {
			met[bits.OnesCount32(expectTrial(t, spiked(n, seed)))]++
			met[bits.OnesCount32(expectTrial(t, chosen(n, spread(seed)&spread(seed+1000), seed)))]++
			met[bits.OnesCount32(expectTrial(t, chosen(n, spread(seed)&spread(seed+1000)&spread(seed+2000), seed)))]++
		}
	}
	for size := range 5 {
		if met[size] < 10 {
			t.Errorf("a poor spread: %d walls of %d nodes", met[size], size)
		}
	}
}

// P3: neither the list that is handed in nor what lies behind its length is changed or read, nor is an answer kept.
func TestMemory(t *testing.T) {
	whole := append(laid(5, star(0, 1, 2, 3), row(2, 4)).Edges, api.Edge{A: 77, B: 77, W: math.MaxInt64})
	before := slices.Clone(whole)
	for range 2 {
		bond, err := Most(api.Graph{N: 5, Edges: whole[:4]})
		if want := []int{0, 3}; err != api.OK || !slices.Equal(bond, want) {
			t.Errorf("Most: %v, %d, want %v", bond, err, want)
		}
		expectWall(t, "the star alone", api.Graph{N: 4, Edges: whole[:3]}, 1)
		for i := range bond {
			bond[i] = 99
		}
	}
	if !slices.Equal(whole, before) {
		t.Errorf("the edges became %v", whole)
	}
}
