package chord

import (
	"math"
	"math/bits"
	"slices"
	"testing"

	"teamster/api"
	"teamster/colour"
	"teamster/crowd"
)

// graphOf makes a graph of n nodes from pairs of nodes; the weights differ, as nothing hangs on them.
func graphOf(n int, pairs ...[2]int) api.Graph {
	g := api.Graph{N: n}
	for i, p := range pairs {
		g.Edges = append(g.Edges, api.Edge{A: p[0], B: p[1], W: int64(3 - i)})
	}
	return g
}

// allPairs: each two of n nodes, every other one turned round.
func allPairs(n int) [][2]int {
	var pairs [][2]int
	for b := range n {
		for a := range b {
			p := [2]int{a, b}
			if len(pairs)%2 == 1 {
				p = [2]int{b, a}
			}
			pairs = append(pairs, p)
		}
	}
	return pairs
}

// chosen takes of all pairs of n nodes those that the choice has.
func chosen(n int, choice uint) api.Graph {
	var pairs [][2]int
	for i, p := range allPairs(n) {
		if choice>>i&1 == 1 {
			pairs = append(pairs, p)
		}
	}
	return graphOf(n, pairs...)
}

// row: a way through these nodes.
func row(nodes ...int) [][2]int {
	var pairs [][2]int
	for i := range len(nodes) - 1 {
		pairs = append(pairs, [2]int{nodes[i], nodes[i+1]})
	}
	return pairs
}

// ring: a way through these nodes and back to the first.
func ring(nodes ...int) [][2]int {
	return row(append(slices.Clone(nodes), nodes[0])...)
}

// full: an edge between each two of these nodes.
func full(nodes ...int) [][2]int {
	var pairs [][2]int
	for _, p := range allPairs(len(nodes)) {
		pairs = append(pairs, [2]int{nodes[p[0]], nodes[p[1]]})
	}
	return pairs
}

// between: an edge from each of the one to each of the other nodes.
func between(one, other []int) [][2]int {
	var pairs [][2]int
	for _, a := range one {
		for _, b := range other {
			pairs = append(pairs, [2]int{a, b})
		}
	}
	return pairs
}

// laid makes a graph of n nodes from lists of pairs.
func laid(n int, all ...[][2]int) api.Graph {
	return graphOf(n, slices.Concat(all...)...)
}

// lacking: n nodes with all edges but these.
func lacking(n int, some ...[2]int) api.Graph {
	return graphOf(n, slices.DeleteFunc(allPairs(n), func(p [2]int) bool {
		return slices.Contains(some, p) || slices.Contains(some, [2]int{p[1], p[0]})
	})...)
}

// spread: a number that looks as if it came from nowhere, the same each time.
func spread(seed uint) uint {
	seed = (seed + 1) * 0x9E3779B97F4A7C15
	seed = (seed ^ seed>>30) * 0xBF58476D1CE4E5B9
	seed = (seed ^ seed>>27) * 0x94D049BB133111EB
	return seed ^ seed>>31
}

// shuffled: the numbers below n in some order.
func shuffled(n int, seed uint) []int {
	list := make([]int, n)
	for i := range list {
		j := int(spread(seed*16+uint(i)) % uint(i+1))
		list[i], list[j] = list[j], i
	}
	return list
}

// scattered: a graph of n nodes that has of each eight pairs about so many.
func scattered(n int, dense, seed uint) api.Graph {
	var pairs [][2]int
	for i, p := range allPairs(n) {
		if spread(seed*64+uint(i))%8 < dense {
			pairs = append(pairs, p)
		}
	}
	return graphOf(n, pairs...)
}

// table says of each two nodes whether they have an edge.
func table(g api.Graph) (has [10][10]bool) {
	for _, e := range g.Edges {
		has[e.A][e.B], has[e.B][e.A] = true, true
	}
	return has
}

// grown: ten nodes in some order. It begins with a ring of so many nodes, with a row where they are fewer than three. Each further one either does as one that is there,
// and has an edge with that one too, or has edges with some of whom each two have one: so there comes no other ring without a short cut, unless it is as long as the first.
func grown(length int, seed uint) api.Graph {
	pairs := row(upTo(length)...)
	if length > 2 {
		pairs = ring(upTo(length)...)
	}
	for node := length; node < 10; node++ {
		has := table(graphOf(node, pairs...))
		draw := spread(seed*32 + uint(node))
		model := int(draw>>8) % node
		friends := []int{model}
		for i, other := range shuffled(node, draw) {
			copied := draw%3 == 0 && has[model][other]
			near := !slices.ContainsFunc(friends, func(f int) bool { return !has[f][other] })
			if copied || draw%3 != 0 && near && draw>>(16+i)%4 != 0 {
				friends = append(friends, other)
			}
		}
		pairs = append(pairs, between([]int{node}, friends)...)
	}
	return mixed(graphOf(10, pairs...), seed)
}

// mixed gives a graph's nodes other numbers, and its edges another order.
func mixed(g api.Graph, seed uint) api.Graph {
	other := api.Graph{N: g.N}
	name := shuffled(g.N, seed+5)
	for _, place := range shuffled(len(g.Edges), seed+9) {
		e := g.Edges[place]
		other.Edges = append(other.Edges, api.Edge{A: name[e.A], B: name[e.B], W: e.W})
	}
	return other
}

// codeOf: what is told beside a list; no list: there is to be none.
func codeOf(list []int) api.Errno {
	if list == nil {
		return api.ErrNone
	}
	return api.OK
}

// expect holds order and ring of a graph against what they are to be; no list: there is to be none, and nothing else told.
func expect(t *testing.T, name string, g api.Graph, order, ring []int) {
	t.Helper()
	if got, err := Order(g); err != codeOf(order) || !slices.Equal(got, order) {
		t.Errorf("Order of %s, %v: %v, %d, want %v", name, g, got, err, order)
	}
	if got, err := Ring(g); err != codeOf(ring) || !slices.Equal(got, ring) {
		t.Errorf("Ring of %s, %v: %v, %d, want %v", name, g, got, err, ring)
	}
}

// O1: graphs from which all nodes can go; none of them has a long ring without a short cut.
func TestOrderByHand(t *testing.T) {
	hub, rim := []int{0}, []int{1, 2, 3, 4, 5, 6, 7, 8, 9}
	for _, c := range []struct {
		name string
		g    api.Graph
		want []int
	}{
		{"nothing", api.Graph{}, []int{}},
		{"nothing, an empty list", api.Graph{Edges: []api.Edge{}}, []int{}},
		{"one node", api.Graph{N: 1}, []int{0}},
		{"two nodes without an edge", api.Graph{N: 2}, []int{0, 1}},
		{"ten nodes without an edge", api.Graph{N: 10}, upTo(10)},
		{"one edge", laid(2, row(0, 1)), []int{0, 1}},
		{"one edge, turned round", laid(2, row(1, 0)), []int{0, 1}},
		{"three in a row", laid(3, row(0, 1, 2)), []int{0, 1, 2}},
		{"three in a row, the least in the middle", laid(3, row(1, 0, 2)), []int{1, 0, 2}},
		{"three in a row, the greatest in the middle", laid(3, row(0, 2, 1)), []int{0, 1, 2}},
		{"four in a row, the least in the middle", laid(4, row(2, 0, 1, 3)), []int{2, 0, 1, 3}},
		{"four in a row, the least in the middle, the other way", laid(4, row(3, 0, 1, 2)), []int{2, 1, 0, 3}},
		{"a row of ten", laid(10, row(upTo(10)...)), upTo(10)},
		{"a row of ten, mixed", laid(10, row(9, 0, 8, 1, 7, 2, 6, 3, 5, 4)), []int{4, 5, 3, 6, 2, 7, 1, 8, 0, 9}},
		{"a star, its hub first", laid(10, between(hub, rim)), []int{1, 2, 3, 4, 5, 6, 7, 8, 0, 9}},
		{"a star, its hub last", laid(10, between([]int{9}, upTo(9))), upTo(10)},
		{"a ring of three", laid(3, ring(0, 1, 2)), []int{0, 1, 2}},
		{"a ring of three, the other way round", laid(3, ring(2, 1, 0)), []int{0, 1, 2}},
		{"a ring of three, its greatest node in a row too", laid(4, ring(0, 2, 3), row(0, 1)), []int{1, 0, 2, 3}},
		{"a ring of four with one short cut", laid(4, ring(0, 1, 2, 3), row(0, 2)), []int{1, 0, 2, 3}},
		{"a ring of four with the other short cut", laid(4, ring(0, 1, 2, 3), row(3, 1)), upTo(4)},
		{"a ring of four with both short cuts", laid(4, ring(0, 1, 2, 3), row(0, 2), row(1, 3)), upTo(4)},
		{"a ring of five with two short cuts", laid(5, ring(0, 1, 2, 3, 4), row(2, 0, 3)), []int{1, 2, 0, 3, 4}},
		{"a ring of six with three short cuts in a ring", laid(6, ring(upTo(6)...), ring(0, 2, 4)), []int{1, 3, 2, 0, 4, 5}},
		{"a ring of ten with all short cuts from one node", laid(10, row(rim...), between(hub, rim)), []int{1, 2, 3, 4, 5, 6, 7, 0, 8, 9}},
		{"a row, and one with an edge to each", laid(5, row(1, 2, 3, 4), between(hub, []int{1, 2, 3, 4})), []int{1, 2, 0, 3, 4}},
		{"two of three with one node", laid(5, ring(0, 1, 2), ring(0, 3, 4)), []int{1, 2, 0, 3, 4}},
		{"two of three with one edge", laid(4, ring(0, 1, 3), row(0, 2, 1)), []int{2, 0, 1, 3}},
		{"parts", laid(9, row(3, 0, 4), ring(1, 5, 7), row(8, 2)), []int{1, 2, 3, 0, 4, 5, 6, 7, 8}},
		{"all edges of ten", laid(10, full(upTo(10)...)), upTo(10)},
		{"all edges of ten but the first", lacking(10, [2]int{0, 1}), upTo(10)},
		{"all edges of ten but the last", lacking(10, [2]int{8, 9}), []int{8, 0, 1, 2, 3, 4, 5, 6, 7, 9}},
		{"all edges of ten but for one node", lacking(10, between(hub, rim)...), upTo(10)},
		{"all edges of ten but for a row", lacking(10, row(0, 1, 2, 3)...), []int{1, 2, 0, 3, 4, 5, 6, 7, 8, 9}},
		{"two times all edges of five", laid(10, full(0, 2, 4, 6, 8), full(1, 3, 5, 7, 9)), upTo(10)},
		{"two times all edges of five, and one more", laid(10, full(0, 2, 4, 6, 8), full(1, 3, 5, 7, 9), row(0, 1)), []int{2, 3, 4, 5, 6, 7, 8, 0, 1, 9}},
	} {
		expect(t, c.name, c.g, c.want, nil)
	}
}

type ringCase struct {
	name string
	g    api.Graph
	want []int
}

// aloneCases: one long ring, alone or with what hangs on it.
func aloneCases() []ringCase {
	hub, rim := []int{0}, []int{1, 2, 3, 4, 5, 6, 7, 8, 9}
	return []ringCase{
		{"the chapter's example", laid(4, ring(0, 1, 2, 3)), []int{0, 1, 2, 3}},
		{"the other way round", laid(4, ring(3, 2, 1, 0)), []int{0, 1, 2, 3}},
		{"a ring of four, mixed", laid(4, ring(0, 1, 3, 2)), []int{0, 1, 3, 2}},
		{"a ring of four, mixed in another way", laid(4, ring(0, 2, 1, 3)), []int{0, 2, 1, 3}},
		{"the greatest nodes", laid(10, ring(9, 7, 8, 6)), []int{6, 8, 7, 9}},
		{"a ring of five", laid(5, ring(0, 1, 2, 3, 4)), []int{0, 1, 2, 3, 4}},
		{"a ring of five, the lesser way round", laid(5, ring(0, 4, 1, 3, 2)), []int{0, 2, 3, 1, 4}},
		{"a ring of six", laid(6, ring(5, 3, 1, 4, 2, 0)), []int{0, 2, 4, 1, 3, 5}},
		{"a ring of seven", laid(8, ring(7, 6, 5, 4, 3, 2, 1)), []int{1, 2, 3, 4, 5, 6, 7}},
		{"a ring of eight", laid(8, ring(0, 2, 4, 6, 7, 5, 3, 1)), []int{0, 1, 3, 5, 7, 6, 4, 2}},
		{"a ring of nine", laid(9, ring(upTo(9)...)), upTo(9)},
		{"a ring of ten", laid(10, ring(upTo(10)...)), upTo(10)},
		{"a ring of ten, mixed", laid(10, ring(0, 9, 1, 8, 2, 7, 3, 6, 4, 5)), []int{0, 5, 4, 6, 3, 7, 2, 8, 1, 9}},
		{"one goes, then none can", laid(5, row(0, 1), ring(1, 2, 3, 4)), []int{1, 2, 3, 4}},
		{"the greatest goes, then none can", laid(5, row(0, 4), ring(0, 1, 2, 3)), []int{0, 1, 2, 3}},
		{"five go, then none can", laid(9, row(0, 1, 2, 3, 4, 5), ring(5, 6, 7, 8)), []int{5, 6, 7, 8}},
		{"six go, then none can", laid(10, ring(9, 6, 8, 7), full(0, 1, 2, 9), row(5, 4, 3, 6)), []int{6, 8, 7, 9}},
		{"one on an edge of a ring", laid(5, ring(0, 2, 3, 4), row(0, 1, 2)), []int{0, 2, 3, 4}},
		{"the least neighbour leads nowhere", laid(7, row(0, 1), ring(0, 2, 4, 3, 6)), []int{0, 2, 4, 3, 6}},
		{"the least node is in no ring", laid(7, row(0, 1, 2), ring(2, 6, 4, 5, 3)), []int{2, 3, 5, 4, 6}},
		{"a ring of nine, and one with an edge to each", laid(10, ring(rim...), between(hub, rim)), rim},
		{"a ring of four, and one with an edge to each", laid(5, ring(1, 2, 3, 4), between(hub, []int{1, 2, 3, 4})), []int{1, 2, 3, 4}},
		{"a ring of four, and one with an edge to three", laid(5, ring(1, 2, 3, 4), between(hub, []int{1, 2, 3})), []int{0, 1, 4, 3}},
	}
}

// severalCases: several rings, of the same length or not.
func severalCases() []ringCase {
	return []ringCase{
		{"five with one short cut", laid(5, ring(0, 1, 2, 3, 4), row(1, 4)), []int{1, 2, 3, 4}},
		{"six with one short cut to four and four", laid(6, ring(upTo(6)...), row(5, 2)), []int{0, 1, 2, 5}},
		{"ten with a short cut to four and eight", laid(10, ring(upTo(10)...), row(5, 8)), []int{5, 6, 7, 8}},
		{"ten with a short cut to six and six", laid(10, ring(upTo(10)...), row(0, 5)), []int{0, 1, 2, 3, 4, 5}},
		{"ten with another short cut to six and six", laid(10, ring(upTo(10)...), row(2, 7)), []int{0, 1, 2, 7, 8, 9}},
		{"ten with a short cut to five and seven", laid(10, ring(upTo(10)...), row(9, 5)), []int{5, 6, 7, 8, 9}},
		{"ten with a short cut to three and nine", laid(10, ring(upTo(10)...), row(0, 2)), []int{0, 2, 3, 4, 5, 6, 7, 8, 9}},
		{"a short one of greater nodes", laid(9, ring(0, 1, 2, 3, 4), ring(5, 6, 7, 8)), []int{5, 6, 7, 8}},
		{"a short one of lesser nodes", laid(9, ring(0, 1, 2, 3), ring(4, 5, 6, 7, 8)), []int{0, 1, 2, 3}},
		{"five and six with a row", laid(10, ring(0, 1, 2, 3, 4, 5), row(5, 6, 7, 8, 9, 5)), []int{5, 6, 7, 8, 9}},
		{"a ring of three ahead of one of five", laid(8, ring(0, 1, 2), ring(3, 4, 5, 6, 7)), []int{3, 4, 5, 6, 7}},
		{"several parts, one with a ring", laid(10, ring(0, 1, 2), row(3, 4), ring(5, 9, 6, 8)), []int{5, 8, 6, 9}},
		{"several parts, the first with a ring", laid(10, ring(0, 1, 2, 3), row(4, 5), ring(6, 7, 9)), []int{0, 1, 2, 3}},
		{"two of four, the lesser first node", laid(8, ring(1, 2, 3, 4), ring(0, 5, 6, 7)), []int{0, 5, 6, 7}},
		{"two of four, the lesser second node", laid(7, ring(0, 2, 3, 4), ring(0, 1, 6, 5)), []int{0, 1, 6, 5}},
		{"two of four, the lesser third node", laid(10, row(0, 1, 8, 3, 0), row(1, 9, 2, 0)), []int{0, 1, 8, 3}},
		{"two of four, the lesser fourth node", laid(5, ring(0, 1, 2, 4), row(2, 3, 0)), []int{0, 1, 2, 3}},
		{"two of five, the lesser fifth node", laid(6, ring(0, 1, 2, 3, 5), row(3, 4, 0), row(4, 5)), []int{0, 1, 2, 3, 4}},
		{"two and three", laid(5, between([]int{0, 1}, []int{2, 3, 4})), []int{0, 2, 1, 3}},
		{"five and five", laid(10, between([]int{0, 1, 2, 3, 4}, []int{5, 6, 7, 8, 9})), []int{0, 5, 1, 6}},
		{"all edges of ten but two", lacking(10, [2]int{9, 7}, [2]int{6, 8}), []int{6, 7, 8, 9}},
		{"all edges of ten but two others", lacking(10, [2]int{0, 1}, [2]int{2, 3}), []int{0, 2, 1, 3}},
		{"all edges of ten but for pairs", lacking(10, slices.Concat(row(0, 1), row(2, 3), row(4, 5), row(6, 7), row(8, 9))...), []int{0, 2, 1, 3}},
		{"all edges of ten but for a ring of ten", lacking(10, ring(upTo(10)...)...), []int{0, 2, 9, 3}},
		{"two of three, tied", laid(6, ring(0, 1, 2), ring(3, 4, 5), row(0, 3), row(1, 4), row(2, 5)), []int{0, 1, 4, 3}},
		{"a cube", laid(8, ring(0, 1, 3, 2), ring(4, 5, 7, 6), row(0, 4), row(1, 5), row(2, 6), row(3, 7)), []int{0, 1, 3, 2}},
		{"two rings of five, tied", laid(10, ring(0, 1, 2, 3, 4), ring(5, 7, 9, 6, 8), row(0, 5), row(1, 6), row(2, 7), row(3, 8), row(4, 9)), []int{0, 1, 2, 3, 4}},
	}
}

// O2: graphs with a long ring without a short cut; from none of them all nodes can go.
func TestRingByHand(t *testing.T) {
	for _, c := range slices.Concat(aloneCases(), severalCases()) {
		expect(t, c.name, c.g, nil, c.want)
	}
}

// orderByPairs lets go, again and again, the first node for which no two that are still there and have an edge with it lack one.
func orderByPairs(g api.Graph) []int {
	has := table(g)
	order, still := []int{}, upTo(g.N)
	stays := func(node int) bool {
		for _, a := range still {
			for _, b := range still {
				if a < b && has[node][a] && has[node][b] && !has[a][b] {
					return true
				}
			}
		}
		return false
	}
	for len(still) > 0 {
		i := 0
		for i < len(still) && stays(still[i]) {
			i++
		}
		if i == len(still) {
			return nil
		}
		order = append(order, still[i])
		still = append(slices.Clone(still[:i]), still[i+1:]...)
	}
	return order
}

// orderByTrial tries all lists of all nodes, the least ones first, until of each node each two neighbours behind it have an edge.
// It goes back where a list comes to nothing; that what it finds is the list in which always the least goes is a truth of its own.
func orderByTrial(g api.Graph) []int {
	has := table(g)
	var goOn func(list []int) []int
	goOn = func(list []int) []int {
		if len(list) == g.N {
			return list
		}
		for node := range g.N {
			if slices.Contains(list, node) {
				continue
			}
			lack := func(a, b int) bool {
				return a != b && has[node][a] && has[node][b] && !has[a][b] && !slices.Contains(list, a) && !slices.Contains(list, b)
			}
			if slices.ContainsFunc(upTo(g.N), func(a int) bool { return slices.ContainsFunc(upTo(g.N), func(b int) bool { return lack(a, b) }) }) {
				continue
			}
			if found := goOn(append(slices.Clone(list), node)); found != nil {
				return found
			}
		}
		return nil
	}
	return goOn([]int{})
}

// walked goes round a set of nodes each of which has two edges within it, from the least one by the lesser of its neighbours, until it meets a node again.
func walked(has *[10][10]bool, set []int) []int {
	list := set[:1:1]
	for {
		last := list[len(list)-1]
		next := slices.IndexFunc(set, func(node int) bool { return has[last][node] && !slices.Contains(list, node) })
		if next < 0 {
			return list
		}
		list = append(list, set[next])
	}
}

// ringBySets goes through all sets of nodes for those that are just a ring, and gives of the best lists the first, and how many such sets have as few nodes.
func ringBySets(g api.Graph) (best []int, count int) {
	has := table(g)
	for word := range 1 << g.N {
		members := bits.OnesCount(uint(word))
		if members < 4 || best != nil && members > len(best) {
			continue
		}
		set := slices.DeleteFunc(upTo(g.N), func(node int) bool { return word>>node&1 == 0 })
		unlike := func(node int) bool {
			edges := 0
			for _, other := range set {
				if has[node][other] {
					edges++
				}
			}
			return edges != 2
		}
		if slices.ContainsFunc(set, unlike) {
			continue
		}
		list := walked(&has, set)
		if len(list) < members { // several rings
			continue
		}
		if best == nil || members < len(best) {
			best, count = list, 0
		}
		if slices.Compare(list, best) < 0 {
			best = list
		}
		count++
	}
	return best, count
}

// isBare says whether a list is a ring of four nodes or more without a short cut.
func isBare(has *[10][10]bool, list []int) bool {
	for i, a := range list {
		for j, b := range list[:i] {
			beside := i-j == 1 || i-j == len(list)-1
			if a == b || has[a][b] != beside {
				return false
			}
		}
	}
	return len(list) >= 4
}

// isOrder says whether a list has all ten nodes, and each two behind one with which it has an edge have one.
func isOrder(has *[10][10]bool, list []int) bool {
	for i, node := range list {
		rest := slices.DeleteFunc(slices.Clone(list[i+1:]), func(other int) bool { return !has[node][other] })
		for j, a := range rest {
			if slices.ContainsFunc(rest[:j], func(b int) bool { return !has[a][b] }) {
				return false
			}
		}
	}
	return slices.Equal(slices.Sorted(slices.Values(list)), upTo(10))
}

// ringByTrial tries all lists of nodes, none twice, the shortest and of these the least ones first, until one is such a ring.
func ringByTrial(g api.Graph) []int {
	has := table(g)
	var goOn func(list []int, length int) []int
	goOn = func(list []int, length int) []int {
		if len(list) == length {
			if isBare(&has, list) {
				return list
			}
			return nil
		}
		for node := range g.N {
			if slices.Contains(list, node) {
				continue
			}
			if found := goOn(append(slices.Clone(list), node), length); found != nil {
				return found
			}
		}
		return nil
	}
	for length := 4; length <= g.N; length++ {
		if found := goOn(nil, length); found != nil {
			return found
		}
	}
	return nil
}

// expectTrial holds order and ring of a graph against trial, and gives how many nodes the ring has, and how many sets of nodes there are for it.
func expectTrial(t *testing.T, name string, g api.Graph) (length, count int) {
	t.Helper()
	found, count := ringBySets(g)
	expect(t, name, g, orderByPairs(g), found)
	return len(found), count
}

// O1, O2: all graphs of up to six nodes, against trial; those of up to five, and some of six, also in another way.
func TestAllSmall(t *testing.T) {
	graphs, several := 0, 0
	var met [7]int
	for n := range 7 {
		for choice := range uint(1) << (n * (n - 1) / 2) {
			g := chosen(n, choice)
			if n < 6 || choice%37 == 5 {
				expect(t, "one of all, in another way", g, orderByTrial(g), ringByTrial(g))
			}
			length, count := expectTrial(t, "one of all", g)
			met[length]++
			if count > 1 {
				several++
			}
			graphs++
		}
	}
	// Of one to six nodes 1, 2, 8, 61, 822 and 18154 graphs have no long ring without a short cut.
	if graphs != 1+1+2+8+64+1024+32768 || met[0] != 1+1+2+8+61+822+18154 || met[6] != 60 || several < 1000 {
		t.Errorf("a poor spread: %d, %d, %v", graphs, several, met)
	}
}

// O1, O2: a spread of graphs of seven to ten nodes, with few edges and with many, against trial.
func TestScattered(t *testing.T) {
	var met [11]int
	for seed := range uint(2400) {
		length, _ := expectTrial(t, "one of many", scattered(7+int(seed%4), 1+seed/4%8, seed))
		met[length]++
	}
	if met[0] < 500 || met[4] < 500 || met[5] < 30 {
		t.Errorf("a poor spread: %v", met)
	}
}

// O1, O2: a spread of graphs of ten nodes whose least ring without a short cut has so many nodes, or that have none, against trial; a few also in another way.
func TestGrown(t *testing.T) {
	for length := 1; length <= 10; length++ {
		want, several := length, 0
		if length < 4 {
			want = 0
		}
		for seed := range uint(200) {
			g := grown(length, seed+1000*uint(length))
			got, count := expectTrial(t, "a grown one", g)
			if got != want {
				t.Fatalf("%v is not grown from %d", g, length)
			}
			if count > 1 {
				several++
			}
			if seed < 10 && want < 6 && want > 0 {
				expect(t, "a grown one, in another way", g, nil, ringByTrial(g))
			}
		}
		if want > 0 && want < 9 && several < 40 {
			t.Errorf("a poor spread: of %d only %d with several", want, several)
		}
	}
}

// O1, O2: there is always just one of the two. The order is one that goes, node by node; what is told of a ring is one.
func TestOrderOrRing(t *testing.T) {
	for seed := range uint(3000) {
		g := scattered(10, seed%9, seed+20000)
		if seed%2 == 0 {
			g = grown(1+int(seed%20/2), seed)
		}
		has := table(g)
		order, one := Order(g)
		round, other := Ring(g)
		switch {
		case one == api.OK && other == api.ErrNone:
			if !isOrder(&has, order) || round != nil {
				t.Errorf("%v: %v, %v", g, order, round)
			}
		case one == api.ErrNone && other == api.OK:
			if !isBare(&has, round) || order != nil {
				t.Errorf("%v: %v, %v", g, order, round)
			}
		default:
			t.Errorf("%v: Order %d, Ring %d", g, one, other)
		}
	}
}

// O1: where there is an order, colouring it from its end on needs no more colours than there are nodes of which each two have an edge.
func TestOrderColours(t *testing.T) {
	met := 0
	for seed := range uint(600) {
		g := grown(1+int(seed%3), seed+500)
		order, _ := Order(g)
		slices.Reverse(order)
		colours, wrong := colour.Greedy(g, order)
		most, _ := crowd.Most(g)
		if wrong != api.OK || slices.Max(colours)+1 != bits.OnesCount32(most) {
			t.Errorf("%v: by %v the colours %v, %d", g, order, colours, wrong)
		}
		if bits.OnesCount32(most) > 3 {
			met++
		}
	}
	if met < 200 {
		t.Errorf("a poor spread: %d", met)
	}
}

// O1, O2: in what order the edges stand, how they are turned and what they weigh does not matter.
func TestEdgesInAnyOrder(t *testing.T) {
	for seed := range uint(500) {
		g := scattered(10, 1+seed%8, seed+900)
		if seed%2 == 0 {
			g = grown(int(1+seed%20/2), seed+900)
		}
		other := api.Graph{N: 10}
		for _, place := range shuffled(len(g.Edges), seed) {
			e := g.Edges[place]
			if spread(seed*64+uint(place))%2 == 0 {
				e.A, e.B = e.B, e.A
			}
			e.W = int64(spread(seed*64+uint(place)+7)%(2*api.MaxWeight+1)) - api.MaxWeight
			other.Edges = append(other.Edges, e)
		}
		found, _ := ringBySets(g)
		expect(t, "the same mixed", other, orderByPairs(g), found)
	}
	for _, w := range []int64{-api.MaxWeight, -1, 0, 1, api.MaxWeight} {
		g := laid(4, ring(0, 1, 2, 3))
		g.Edges[0].W, g.Edges[2].W = w, -w
		expect(t, "the chapter's example, with weights", g, nil, upTo(4))
	}
}

// heavy: one edge with this weight, and behind it these pairs.
func heavy(n int, w int64, pairs ...[2]int) api.Graph {
	g := graphOf(n, append([][2]int{{0, 1}}, pairs...)...)
	g.Edges[0].W = w
	return g
}

// A1, P2: each call tells what is wrong with the graph, and nothing else.
func TestWrongGraphs(t *testing.T) {
	for _, c := range []struct {
		name string
		g    api.Graph
		want api.Errno
	}{
		{"N -1", api.Graph{N: -1}, api.ErrLarge},
		{"N least", api.Graph{N: math.MinInt}, api.ErrLarge},
		{"N 11", api.Graph{N: api.MaxNodes + 1}, api.ErrLarge},
		{"N 11, a ring", laid(11, ring(0, 1, 2, 3)), api.ErrLarge},
		{"N 11, a wrong edge", laid(11, row(3, 3)), api.ErrLarge},
		{"N 32", api.Graph{N: 32}, api.ErrLarge},
		{"N 2 to the power of 32", api.Graph{N: 1 << 32}, api.ErrLarge},
		{"N greatest", api.Graph{N: math.MaxInt}, api.ErrLarge},
		{"46 edges", api.Graph{N: 10, Edges: make([]api.Edge, api.MaxEdges+1)}, api.ErrLarge},
		{"46 edges, one of them twice", graphOf(10, append(allPairs(10), [2]int{0, 1})...), api.ErrLarge},
		{"46 edges, no node", api.Graph{Edges: make([]api.Edge, api.MaxEdges+1)}, api.ErrLarge},
		{"no node, an edge", laid(0, row(0, 1)), api.ErrArg},
		{"an end below", laid(4, ring(0, 1, 2, -1)), api.ErrArg},
		{"an end above", laid(4, ring(0, 1, 2, 4)), api.ErrArg},
		{"a ring with an edge too far", laid(4, ring(0, 1, 2, 3), row(3, 4)), api.ErrArg},
		{"ends far off", laid(3, row(math.MinInt, math.MaxInt)), api.ErrArg},
		{"an end too far to be told", laid(3, row(0, 1<<32+1)), api.ErrArg},
		{"no node has an edge with itself", laid(3, row(5, 5)), api.ErrArg},
		{"an edge with one end", laid(3, row(0, 1, 2, 2)), api.ErrForm},
		{"a ring with an edge with one end", laid(4, ring(0, 1, 2, 3), row(2, 2)), api.ErrForm},
		{"an edge there and back", laid(3, ring(0, 1)), api.ErrForm},
		{"a ring twice", laid(4, ring(0, 1, 2, 3), ring(0, 1, 2, 3)), api.ErrForm},
		{"too heavy", heavy(2, api.MaxWeight+1), api.ErrRange},
		{"too light", heavy(2, -api.MaxWeight-1), api.ErrRange},
		{"far too heavy", heavy(2, math.MaxInt64), api.ErrRange},
		{"far too light", heavy(2, math.MinInt64), api.ErrRange},
		{"a ring, too heavy", heavy(4, api.MaxWeight+1, row(1, 2, 3, 0)...), api.ErrRange},
		{"too heavy ahead of no node", heavy(3, math.MaxInt64, [2]int{0, 3}), api.ErrRange},
		{"too light ahead of one end", heavy(3, math.MinInt64, [2]int{2, 2}), api.ErrRange},
		{"no node ahead of one end", laid(3, row(0, 3), row(1, 1)), api.ErrArg},
		{"one end ahead of no node", laid(3, row(1, 1), row(0, 3)), api.ErrForm},
		{"an edge twice ahead of no node", laid(3, row(1, 0, 1, 3)), api.ErrForm},
	} {
		for name, call := range map[string]func(api.Graph) ([]int, api.Errno){"Order": Order, "Ring": Ring} {
			if list, err := call(c.g); err != c.want || len(list) != 0 {
				t.Errorf("%s of %s: %v, %d, want %d", name, c.name, list, err, c.want)
			}
		}
	}
}

// P3: the edges that are handed in are neither changed nor read behind their length.
func TestArgumentsAreLeftAlone(t *testing.T) {
	edges := append(laid(4, row(3, 2, 1, 0, 3, 1)).Edges, api.Edge{A: 7, B: 7, W: math.MaxInt64})
	before := slices.Clone(edges)
	for range 2 {
		expect(t, "none of it", api.Graph{N: 4, Edges: edges[:0]}, upTo(4), nil)
		expect(t, "a piece of it, a row", api.Graph{N: 4, Edges: edges[:3]}, upTo(4), nil)
		expect(t, "a piece of it, a ring", api.Graph{N: 4, Edges: edges[:4]}, nil, upTo(4))
		expect(t, "a piece of it, a ring and a short cut", api.Graph{N: 4, Edges: edges[:5]}, upTo(4), nil)
		if list, err := Order(api.Graph{N: 4, Edges: edges}); err != api.ErrArg || len(list) != 0 {
			t.Errorf("Order of all of it: %v, %d", list, err)
		}
	}
	if !slices.Equal(edges, before) {
		t.Errorf("the edges became %v", edges)
	}
}

// P3: no answer is kept: what is done to one is not seen in the next one.
func TestAnswersAreNewMemory(t *testing.T) {
	row10, ring10 := laid(10, row(upTo(10)...)), laid(10, ring(upTo(10)...))
	for range 3 {
		expect(t, "a row", row10, upTo(10), nil)
		expect(t, "a ring", ring10, nil, upTo(10))
		order, _ := Order(row10)
		round, _ := Ring(ring10)
		for i := range order[:cap(order)] {
			order[:cap(order)][i] = 77
		}
		if !slices.Equal(round, upTo(10)) {
			t.Errorf("the ring became %v", round)
		}
		for i := range round[:cap(round)] {
			round[:cap(round)][i] = 88
		}
		if slices.Contains(order, 88) {
			t.Errorf("the order became %v", order)
		}
	}
}
