package short

import (
	"math"
	"slices"
	"testing"

	"teamster/api"
)

// weight: the greatest fee.
const weight = api.MaxWeight

// none stands in what is wanted of Far for a node to which there is no walk.
const none = math.MaxInt64

// net: so many nodes, and arcs: each from a node to another one, and its fee. Nothing may go on them: a walk does not ask for that.
func net(n int, list ...[3]int64) api.Net {
	made := api.Net{N: n}
	for _, a := range list {
		made.Arcs = append(made.Arcs, api.Arc{From: int(a[0]), To: int(a[1]), Fee: a[2]})
	}
	return made
}

// round: arcs from each of the nodes to the next one, and from the last one to the first, with these fees.
func round(nodes []int, fees ...int64) []api.Arc {
	var arcs []api.Arc
	for i, node := range nodes {
		arcs = append(arcs, api.Arc{From: node, To: nodes[(i+1)%len(nodes)], Fee: fees[i]})
	}
	return arcs
}

// row: arcs from each of n nodes to the next one, with this fee, the last one first.
func row(n int, fee int64) []api.Arc {
	var arcs []api.Arc
	for node := n - 2; node >= 0; node-- {
		arcs = append(arcs, api.Arc{From: node, To: node + 1, Fee: fee})
	}
	return arcs
}

// spread: a number that looks as if it came from nowhere, the same each time.
func spread(seed uint) uint {
	seed = (seed + 1) * 0x9E3779B97F4A7C15
	seed = (seed ^ seed>>30) * 0xBF58476D1CE4E5B9
	seed = (seed ^ seed>>27) * 0x94D049BB133111EB
	return seed ^ seed>>31
}

// split gives what Far is to answer from what is wanted of it.
func split(want []int64) ([]int64, []bool) {
	far, is := slices.Clone(want), make([]bool, len(want))
	for node, length := range want {
		is[node] = length != none
		if !is[node] {
			far[node] = 0
		}
	}
	return far, is
}

func expectFar(t *testing.T, name string, n api.Net, s int, want []int64) {
	t.Helper()
	wantFar, wantIs := split(want)
	if far, is, err := Far(n, s); err != api.OK || !slices.Equal(far, wantFar) || !slices.Equal(is, wantIs) {
		t.Errorf("Far of %s, %v, from %d: %v, %v, %d, want %v, %v", name, n, s, far, is, err, wantFar, wantIs)
	}
}

func expectFarWrong(t *testing.T, name string, n api.Net, s int, want api.Errno) {
	t.Helper()
	if far, is, err := Far(n, s); err != want || len(far) != 0 || len(is) != 0 {
		t.Errorf("Far of %s, %v, from %d: %v, %v, %d, want %d", name, n, s, far, is, err, want)
	}
}

func expectAll(t *testing.T, name string, n api.Net, want [][]int64) {
	t.Helper()
	far, is, err := All(n)
	good := err == api.OK && len(far) == len(want) && len(is) == len(want)
	for s := 0; good && s < len(want); s++ {
		wantFar, wantIs := split(want[s])
		good = slices.Equal(far[s], wantFar) && slices.Equal(is[s], wantIs)
	}
	if !good {
		t.Errorf("All of %s, %v: %v, %v, %d, want %v", name, n, far, is, err, want)
	}
}

func expectAllWrong(t *testing.T, name string, n api.Net, want api.Errno) {
	t.Helper()
	if far, is, err := All(n); err != want || len(far) != 0 || len(is) != 0 {
		t.Errorf("All of %s, %v: %v, %v, %d, want %d", name, n, far, is, err, want)
	}
}

func expectWay(t *testing.T, name string, n api.Net, s, to int, want []int) {
	t.Helper()
	if arcs, err := Way(n, s, to); err != api.OK || !slices.Equal(arcs, want) {
		t.Errorf("Way of %s, %v, from %d to %d: %v, %d, want %v", name, n, s, to, arcs, err, want)
	}
}

func expectWayWrong(t *testing.T, name string, n api.Net, s, to int, want api.Errno) {
	t.Helper()
	if arcs, err := Way(n, s, to); err != want || len(arcs) != 0 {
		t.Errorf("Way of %s, %v, from %d to %d: %v, %d, want %d", name, n, s, to, arcs, err, want)
	}
}

type farCase struct {
	name string
	n    api.Net
	want [][]int64 // from each node to each node
}

func farCases() []farCase {
	return []farCase{
		{"no nodes", api.Net{}, nil},
		{"one node", net(1), [][]int64{{0}}},
		{"two nodes, no arcs", net(2), [][]int64{{0, none}, {none, 0}}},
		{"the chapter's example", net(3, [3]int64{0, 1, 5}, [3]int64{1, 2, -2}), [][]int64{{0, 5, 3}, {none, 0, -2}, {none, none, 0}}},
		{"a Fee of 0", net(2, [3]int64{0, 1, 0}), [][]int64{{0, 0}, {none, 0}}},
		{"a Fee below 0", net(2, [3]int64{1, 0, -7}), [][]int64{{0, none}, {-7, 0}}},
		{"a sum of 0", net(3, [3]int64{0, 1, 4}, [3]int64{1, 2, -4}), [][]int64{{0, 4, 0}, {none, 0, -4}, {none, none, 0}}},
		{"two arcs join the same nodes, the longer one first", net(2, [3]int64{0, 1, 9}, [3]int64{0, 1, 2}), [][]int64{{0, 2}, {none, 0}}},
		{"two arcs join the same nodes, the shorter one first", net(2, [3]int64{0, 1, 2}, [3]int64{0, 1, 9}), [][]int64{{0, 2}, {none, 0}}},
		{"an arc leads back", net(2, [3]int64{0, 1, 3}, [3]int64{1, 0, 5}), [][]int64{{0, 3}, {5, 0}}},
		{"an arc leads back below 0", net(2, [3]int64{0, 1, 3}, [3]int64{1, 0, -2}), [][]int64{{0, 3}, {-2, 0}}},
		{"a ring of the length 0", net(2, [3]int64{0, 1, 3}, [3]int64{1, 0, -3}), [][]int64{{0, 3}, {-3, 0}}},
		{"a ring of nothing but 0", net(3, [3]int64{0, 1, 0}, [3]int64{1, 2, 0}, [3]int64{2, 0, 0}), [][]int64{{0, 0, 0}, {0, 0, 0}, {0, 0, 0}}},
		{"more arcs that are shorter", net(3, [3]int64{0, 2, 9}, [3]int64{0, 1, 4}, [3]int64{1, 2, 4}), [][]int64{{0, 4, 8}, {none, 0, 4}, {none, none, 0}}},
		{"more arcs that are shorter, as one is below 0", net(3, [3]int64{0, 2, 1}, [3]int64{1, 2, -9}, [3]int64{0, 1, 9}), [][]int64{{0, 9, 0}, {none, 0, -9}, {none, none, 0}}},
		{"what was near is nearer yet", net(4, [3]int64{0, 1, 1}, [3]int64{1, 3, 1}, [3]int64{2, 1, -5}, [3]int64{0, 2, 3}),
			[][]int64{{0, -2, 3, -1}, {none, 0, none, 1}, {none, -5, 0, -4}, {none, none, none, 0}}},
		{"two parts", net(4, [3]int64{3, 1, -1}, [3]int64{2, 0, 6}), [][]int64{{0, none, none, none}, {none, 0, none, none}, {6, none, 0, none}, {none, -1, none, 0}}},
	}
}

// K1: the chapter's example, and others that are worked out by hand: All, and Far from each node.
func TestFarByHand(t *testing.T) {
	for _, c := range farCases() {
		expectAll(t, c.name, c.n, c.want)
		for s, want := range c.want {
			expectFar(t, c.name, c.n, s, want)
		}
	}
}

// K1: how much may go on an arc is not asked for.
func TestMostDoesNotMatter(t *testing.T) {
	for _, most := range []int64{0, 1, weight} {
		n := net(3, [3]int64{0, 1, 5}, [3]int64{1, 2, -2}, [3]int64{0, 2, 4}, [3]int64{2, 1, 2})
		for i := range n.Arcs {
			n.Arcs[i].Most = most * int64(1-i%2)
		}
		expectFar(t, "some Most", n, 0, []int64{0, 5, 3})
		expectWay(t, "some Most", n, 0, 2, []int{0, 1})
		n.Arcs[3].Fee = 1
		expectFarWrong(t, "some Most, a ring below 0", n, 0, api.ErrNone)
	}
}

// K1, K2: as far as can be, above 0 and below it, with the arcs in the order in which a walk grows slowest.
func TestFarthest(t *testing.T) {
	for _, fee := range []int64{weight, 1, 0, -1, -weight} {
		var want []int64
		for node := range int64(api.MaxNodes) {
			want = append(want, node*fee)
		}
		n := api.Net{N: api.MaxNodes, Arcs: slices.Repeat(row(api.MaxNodes, fee), 3)}
		expectFar(t, "a row, three beside each other", n, 0, want)
		expectWay(t, "a row, three beside each other", n, 0, 9, []int{8, 7, 6, 5, 4, 3, 2, 1, 0})
		n.Arcs = append(row(api.MaxNodes, fee), api.Arc{From: 9, To: 0, Fee: weight})
		if 9*fee+weight < 0 {
			expectFarWrong(t, "a row with a way back", n, 0, api.ErrNone)
			expectWayWrong(t, "a row with a way back", n, 0, 9, api.ErrNone)
			continue
		}
		expectFar(t, "a row with a way back", n, 0, want)
		expectFar(t, "a row with a way back", n, 9, append(addTo(want[:9], weight), 0))
	}
}

// addTo gives the numbers with so much added to each.
func addTo(list []int64, by int64) []int64 {
	sums := slices.Clone(list)
	for i := range sums {
		sums[i] += by
	}
	return sums
}

type ringCase struct {
	name string
	n    api.Net
	from []int // the nodes from which the ring can be come to
}

func ringCases() []ringCase {
	big := round([]int{0, 1, 2, 3, 4, 5, 6, 7, 8, 9}, 1, 1, 1, 1, 1, 1, 1, 1, 1, -10)
	turned := slices.Clone(big)
	slices.Reverse(turned)
	all := []int{0, 1, 2, 3, 4, 5, 6, 7, 8, 9}
	two := []int{0, 1}
	return []ringCase{
		{"two nodes", net(2, [3]int64{0, 1, 5}, [3]int64{1, 0, -6}), two},
		{"two nodes, both below 0", net(2, [3]int64{0, 1, -weight}, [3]int64{1, 0, -weight}), two},
		{"two nodes, another arc is longer", net(2, [3]int64{0, 1, 5}, [3]int64{1, 0, -6}, [3]int64{0, 1, 9}, [3]int64{1, 0, 9}), two},
		{"30 arcs to and fro", api.Net{N: 2, Arcs: slices.Repeat(round(two, -weight, -weight), 15)}, two},
		{"three nodes", net(3, [3]int64{2, 0, -1}, [3]int64{1, 2, -3}, [3]int64{0, 1, 3}), []int{0, 1, 2}},
		{"behind the first node", net(3, [3]int64{0, 1, 100}, [3]int64{1, 2, 1}, [3]int64{2, 1, -2}), []int{0, 1, 2}},
		{"ahead of the last node", net(3, [3]int64{2, 1, 100}, [3]int64{1, 0, 1}, [3]int64{0, 1, -2}), []int{0, 1, 2}},
		{"leads to the others, but none leads to it", net(4, [3]int64{2, 3, 1}, [3]int64{3, 2, -2}, [3]int64{3, 0, 1}, [3]int64{0, 1, 1}), []int{2, 3}},
		{"in another part", net(5, [3]int64{0, 1, 4}, [3]int64{3, 4, -4}, [3]int64{4, 3, 3}, [3]int64{1, 2, 0}), []int{3, 4}},
		{"all ten nodes", api.Net{N: 10, Arcs: big}, all},
		{"all ten nodes, the last arc first", api.Net{N: 10, Arcs: turned}, all},
		{"two rings of the length 0 share an arc", net(4, [3]int64{0, 1, 2}, [3]int64{1, 2, -2}, [3]int64{2, 0, 0}, [3]int64{1, 3, -3}, [3]int64{3, 0, 1}, [3]int64{3, 2, 0}), []int{0, 1, 2, 3}},
		{"at the end of a row", api.Net{N: 10, Arcs: append(row(10, 7), api.Arc{From: 9, To: 8, Fee: -8})}, all},
	}
}

// K1, K2: ErrNone of a ring whose length is below 0, from where it can be come to, and from there only; of All from wherever.
func TestRingBelowNothing(t *testing.T) {
	for _, c := range ringCases() {
		expectAllWrong(t, c.name, c.n, api.ErrNone)
		for s := range c.n.N {
			if !slices.Contains(c.from, s) {
				continue
			}
			expectFarWrong(t, c.name, c.n, s, api.ErrNone)
			for to := range c.n.N {
				expectWayWrong(t, c.name, c.n, s, to, api.ErrNone)
			}
		}
	}
	leads := ringCases()[7].n
	expectFar(t, "a ring that can't be come to", leads, 0, []int64{0, 1, none, none})
	expectFar(t, "a ring that can't be come to", leads, 1, []int64{none, 0, none, none})
	expectWay(t, "a ring that can't be come to", leads, 0, 1, []int{3})
	expectWay(t, "a ring that can't be come to", leads, 0, 0, nil)
	expectWayWrong(t, "a ring that can't be come to", leads, 0, 3, api.ErrNone)
	other := ringCases()[8].n
	expectFar(t, "a ring in another part", other, 0, []int64{0, 4, 4, none, none})
	expectWay(t, "a ring in another part", other, 0, 2, []int{0, 3})
	expectWay(t, "a ring in another part", other, 2, 2, nil)
	expectWayWrong(t, "a ring in another part", other, 2, 3, api.ErrNone)
}

type wayCase struct {
	name  string
	n     api.Net
	s, to int
	want  []int
}

func plainWays() []wayCase {
	example := net(3, [3]int64{0, 1, 5}, [3]int64{1, 2, -2})
	return []wayCase{
		{"the chapter's example", example, 0, 2, []int{0, 1}},
		{"the chapter's example, a part", example, 1, 2, []int{1}},
		{"one node", net(1), 0, 0, nil},
		{"s and t the same, no arcs", net(3), 2, 2, nil},
		{"s and t the same, a ring", net(2, [3]int64{0, 1, 1}, [3]int64{1, 0, 1}), 0, 0, nil},
		{"s and t the same, a ring of the length 0", net(2, [3]int64{0, 1, 3}, [3]int64{1, 0, -3}), 1, 1, nil},
		{"s and t the same, a ring of nothing but 0", net(3, [3]int64{0, 1, 0}, [3]int64{1, 2, 0}, [3]int64{2, 0, 0}), 0, 0, nil},
		{"two arcs join the same nodes", net(2, [3]int64{0, 1, 9}, [3]int64{0, 1, 2}), 0, 1, []int{1}},
		{"two arcs join the same nodes, as long", net(2, [3]int64{1, 0, 4}, [3]int64{0, 1, 4}, [3]int64{0, 1, 4}), 0, 1, []int{1}},
		{"shorter with more arcs", net(3, [3]int64{0, 2, 9}, [3]int64{0, 1, 4}, [3]int64{1, 2, 4}), 0, 2, []int{1, 2}},
		{"shorter with more arcs, below 0", net(3, [3]int64{0, 2, -3}, [3]int64{0, 1, -2}, [3]int64{1, 2, -2}), 0, 2, []int{1, 2}},
		{"as long with fewer arcs", net(3, [3]int64{0, 1, 4}, [3]int64{1, 2, 4}, [3]int64{0, 2, 8}), 0, 2, []int{2}},
		{"as long with fewer arcs, for nothing", net(3, [3]int64{0, 1, 0}, [3]int64{1, 2, 0}, [3]int64{0, 2, 0}), 0, 2, []int{2}},
		{"as long with fewer arcs, below 0", net(3, [3]int64{0, 1, -4}, [3]int64{1, 2, 1}, [3]int64{0, 2, -3}), 0, 2, []int{2}},
		{"as long with fewer arcs, on from there", net(4, [3]int64{0, 1, 2}, [3]int64{1, 2, 2}, [3]int64{2, 3, 2}, [3]int64{0, 2, 4}), 0, 3, []int{3, 2}},
	}
}

func knottyWays() []wayCase {
	// The nodes 1 and 3 are come to again at no cost: but with more arcs.
	loops := net(4, [3]int64{1, 2, 0}, [3]int64{2, 1, 0}, [3]int64{0, 1, 1}, [3]int64{1, 3, 1}, [3]int64{3, 0, -2})
	return []wayCase{
		{"a ring of the length 0 beside", loops, 0, 3, []int{2, 3}},
		{"a ring of the length 0 beside, back", loops, 2, 0, []int{1, 3, 4}},
		{"a ring of the length 0 around", loops, 3, 3, nil},
		{"the lesser place first, the greater one last", net(4, [3]int64{2, 3, 1}, [3]int64{0, 1, 1}, [3]int64{0, 2, 1}, [3]int64{1, 3, 1}), 0, 3, []int{1, 3}},
		{"the lesser place by way of the greater node", net(4, [3]int64{0, 2, 1}, [3]int64{0, 1, 1}, [3]int64{1, 3, 1}, [3]int64{2, 3, 1}), 0, 3, []int{0, 3}},
		{"the lesser place is the longer arc", net(4, [3]int64{0, 1, 5}, [3]int64{0, 2, 1}, [3]int64{2, 3, 5}, [3]int64{1, 3, 1}), 0, 3, []int{0, 3}},
		{"the lesser place is the longer way", net(4, [3]int64{0, 1, 1}, [3]int64{0, 2, 1}, [3]int64{2, 3, 4}, [3]int64{1, 3, 5}), 0, 3, []int{1, 2}},
		{"they differ in the middle", net(5, [3]int64{1, 2, -1}, [3]int64{0, 1, 0}, [3]int64{1, 3, -1}, [3]int64{3, 4, 0}, [3]int64{2, 4, 0}), 0, 4, []int{1, 0, 4}},
		{"they differ last", net(3, [3]int64{0, 1, 2}, [3]int64{1, 2, 7}, [3]int64{1, 2, 6}, [3]int64{1, 2, 6}), 0, 2, []int{0, 2}},
		{"the lesser place has more arcs", net(5, [3]int64{0, 1, 0}, [3]int64{1, 2, 0}, [3]int64{2, 4, 0}, [3]int64{0, 3, 0}, [3]int64{3, 4, 0}), 0, 4, []int{3, 4}},
		{"the lesser place leads away from t", net(4, [3]int64{0, 1, 0}, [3]int64{0, 2, 3}, [3]int64{2, 3, 3}), 0, 3, []int{1, 2}},
	}
}

// K2: the chapter's example, and others that are worked out by hand.
func TestWayByHand(t *testing.T) {
	for _, c := range append(plainWays(), knottyWays()...) {
		expectWay(t, c.name, c.n, c.s, c.to, c.want)
	}
}

// K2: there is no walk.
func TestNoWay(t *testing.T) {
	row := net(3, [3]int64{0, 1, 5}, [3]int64{1, 2, -2})
	for _, ends := range [][2]int{{1, 0}, {2, 0}, {2, 1}} {
		expectWayWrong(t, "against the arcs", row, ends[0], ends[1], api.ErrNone)
	}
	expectWayWrong(t, "no arcs", net(10), 0, 9, api.ErrNone)
	expectWayWrong(t, "both lead to the third one", net(3, [3]int64{0, 2, 0}, [3]int64{1, 2, 0}), 0, 1, api.ErrNone)
	expectWayWrong(t, "both are led to by the third one", net(3, [3]int64{2, 0, 0}, [3]int64{2, 1, 0}), 0, 1, api.ErrNone)
}

// visitWalks visits all walks from a node with at most so many arcs, the place first that is the lesser one; the list is the same each time.
func visitWalks(n api.Net, from, most int, visit func(to int, length int64, arcs []int)) {
	arcs := make([]int, 0, most)
	var walkOn func(at int, length int64)
	walkOn = func(at int, length int64) {
		visit(at, length, arcs)
		if len(arcs) == most {
			return
		}
		for place, a := range n.Arcs {
			if a.From == at {
				arcs = append(arcs, place)
				walkOn(a.To, length+a.Fee)
				arcs = arcs[:len(arcs)-1]
			}
		}
	}
	walkOn(from, 0)
}

// known is what is known of walks from a node: of each node the least length, the walk to be told, and how many are as short.
type known struct {
	far   []int64
	ways  [][]int
	alike []int
	wrong api.Errno
}

// nothingKnown: of n nodes.
func nothingKnown(n int) known {
	return known{far: slices.Repeat([]int64{none}, n), ways: make([][]int, n), alike: make([]int, n)}
}

// byTrial tries all walks from a node with no more arcs than there are nodes: each ring that does not meet a node twice is among those from its nodes,
// and each walk that does not.
func byTrial(n api.Net, s int) known {
	k := nothingKnown(n.N)
	visitWalks(n, s, n.N-1, func(to int, length int64, arcs []int) {
		if length < k.far[to] || length == k.far[to] && len(arcs) < len(k.ways[to]) {
			if length < k.far[to] {
				k.alike[to] = 0
			}
			k.far[to], k.ways[to] = length, slices.Clone(arcs)
		}
		if length == k.far[to] {
			k.alike[to]++
		}
	})
	for node := range n.N {
		if k.far[node] == none {
			continue
		}
		visitWalks(n, node, n.N, func(to int, length int64, arcs []int) {
			if to == node && length < 0 {
				k.wrong = api.ErrNone
			}
		})
	}
	return k
}

// justSo gives of each number of arcs, up to the most, of each node the least length of a walk to a node with just so many.
func justSo(n api.Net, to, most int) [][]int64 {
	least := make([][]int64, most+1)
	for count := range least {
		least[count] = slices.Repeat([]int64{none}, n.N)
	}
	least[0][to] = 0
	for count := range most {
		for _, a := range n.Arcs {
			if on := least[count][a.To]; on != none {
				least[count+1][a.From] = min(least[count+1][a.From], a.Fee+on)
			}
		}
	}
	return least
}

// follow gives, of the walks from a node that have that many arcs and are as short as can be with so many, the one with the lesser place, arc by arc.
func follow(n api.Net, least [][]int64, from, count int) []int {
	var arcs []int
	for at := from; count > 0; count-- {
		place := slices.IndexFunc(n.Arcs, func(a api.Arc) bool {
			on := least[count-1][a.To]
			return a.From == at && on != none && a.Fee+on == least[count][at]
		})
		arcs = append(arcs, place)
		at = n.Arcs[place].To
	}
	return arcs
}

// byCount knows of greater nets what byTrial does of small ones (but how many are alike), by the least lengths of walks with just so many arcs.
func byCount(n api.Net, s int) known {
	k := nothingKnown(n.N)
	for to := range n.N {
		least := justSo(n, to, n.N)
		few := 0
		for count := range n.N {
			if least[count][s] < least[few][s] {
				few = count
			}
		}
		k.far[to] = least[few][s]
		if k.far[to] == none {
			continue
		}
		k.ways[to] = follow(n, least, s, few)
		for _, row := range least {
			if row[to] < 0 {
				k.wrong = api.ErrNone
			}
		}
	}
	return k
}

// expectKnown holds Far and Way from a node against what is known.
func expectKnown(t *testing.T, n api.Net, s int, k known) {
	t.Helper()
	if k.wrong != api.OK {
		expectFarWrong(t, "one of many", n, s, k.wrong)
		for to := range n.N {
			expectWayWrong(t, "one of many", n, s, to, k.wrong)
		}
		return
	}
	expectFar(t, "one of many", n, s, k.far)
	for to := range n.N {
		if k.far[to] == none {
			expectWayWrong(t, "one of many", n, s, to, api.ErrNone)
		} else {
			expectWay(t, "one of many", n, s, to, k.ways[to])
		}
	}
}

// tally is how many times walks from a node get shorter for ever, are found, are not found, and are found though from another node they get shorter for ever;
// and of how many there are several of the same length.
type tally struct{ ever, found, lost, spared, several int }

// expectAllKnown holds All, and from each node Far and Way, against what is known from each node.
func expectAllKnown(t *testing.T, n api.Net, find func(api.Net, int) known, met *tally) {
	t.Helper()
	var far [][]int64
	for s := range n.N {
		k := find(n, s)
		expectKnown(t, n, s, k)
		if k.wrong != api.OK {
			met.ever++
			continue
		}
		far = append(far, k.far)
		for to, length := range k.far {
			switch {
			case length == none:
				met.lost++
			case to != s:
				met.found++
			}
			if k.alike[to] > 1 {
				met.several++
			}
		}
	}
	if len(far) == n.N {
		expectAll(t, "one of many", n, far)
		return
	}
	met.spared += len(far)
	expectAllWrong(t, "one of many", n, api.ErrNone)
}

// numbered: so many nodes and arcs, from where, to where and the fee, -1, 0 or 1, being of the number's digits.
func numbered(nodes, count, number int) api.Net {
	n := api.Net{N: nodes}
	for range count {
		fee := number%3 - 1
		number /= 3
		from := number % nodes
		number /= nodes
		to := number % (nodes - 1)
		number /= nodes - 1
		if to >= from {
			to++
		}
		n.Arcs = append(n.Arcs, api.Arc{From: from, To: to, Fee: int64(fee)})
	}
	return n
}

// K1, K2: all nets of two nodes with up to five arcs, of three with up to four, and of four with up to three, of the fees -1, 0 and 1, against trial of all walks;
// and some of two nodes with six arcs, and of four with four.
func TestAllSmall(t *testing.T) {
	met := &tally{}
	for _, c := range []struct{ nodes, most, step int }{{2, 5, 1}, {3, 4, 1}, {4, 3, 1}, {2, 6, 7}, {4, 4, 61}} {
		kinds := 3 * c.nodes * (c.nodes - 1)
		for count := range c.most + 1 {
			all := 1
			for range count {
				all *= kinds
			}
			for number := 0; number < all; number += c.step {
				expectAllKnown(t, numbered(c.nodes, count, number), byTrial, met)
			}
		}
	}
	if met.ever < 20000 || met.found < 100000 || met.lost < 100000 || met.spared < 10000 || met.several < 10000 {
		t.Errorf("a poor spread: %+v", *met)
	}
}

// leaning: so many nodes and arcs, none of whose rings has a length below 0: each node has a height, by which it is shorter to go down and longer to go up,
// and besides this each arc has up to slack. If that is asked for, no arc leads from the greater nodes back to the lesser ones.
func leaning(nodes, count int, height, slack int64, oneWay bool, seed uint) api.Net {
	n := api.Net{N: nodes}
	high := func(node int) int64 { return int64(spread(seed*77+uint(node)) % uint(height+1)) }
	for i := range count {
		luck := spread(seed*64 + uint(i) + 1<<40)
		from := int(luck % uint(nodes))
		to := (from + 1 + int(luck>>8%uint(nodes-1))) % nodes
		if oneWay && from >= nodes/2 && to < nodes/2 {
			from, to = to, from
		}
		fee := high(to) - high(from) + int64(luck>>16%uint(slack+1))
		n.Arcs = append(n.Arcs, api.Arc{From: from, To: to, Most: int64(luck >> 40 % 3), Fee: fee})
	}
	return n
}

// lowered: the net with so many of its arcs shorter by so much, so that rings may have a length below 0.
func lowered(n api.Net, count int, by int64) api.Net {
	for i := range min(count, len(n.Arcs)) {
		n.Arcs[i].Fee = max(n.Arcs[i].Fee-by, -weight)
	}
	return n
}

// K1, K2: a spread of nets of up to six nodes and ten arcs, against trial of all walks; which holds the way by counts as well.
func TestAgainstTrial(t *testing.T) {
	met := &tally{}
	for seed := range uint(3000) {
		luck := spread(seed + 4321)
		slack := []int64{0, 1, 3}[luck>>20%3]
		n := leaning(3+int(luck%4), int(luck>>8%11), []int64{0, 2, 9, 1000}[luck>>16%4], slack, luck>>40%2 == 0, seed)
		n = lowered(n, []int{0, 0, 1, 3}[luck>>24%4], slack+1)
		expectAllKnown(t, n, byTrial, met)
		for s := range n.N {
			trial, count := byTrial(n, s), byCount(n, s)
			if trial.wrong != count.wrong || trial.wrong == api.OK && (!slices.Equal(trial.far, count.far) || !slices.EqualFunc(trial.ways, count.ways, slices.Equal[[]int])) {
				t.Fatalf("the two ways to know of %v from %d tell %v and %v", n, s, trial, count)
			}
		}
	}
	if met.ever < 500 || met.found < 10000 || met.lost < 10000 || met.spared < 250 || met.several < 3000 {
		t.Errorf("a poor spread: %+v", *met)
	}
}

// K1, K2: a spread of nets of seven to ten nodes, sparse and full, against the way by counts.
func TestGreaterNets(t *testing.T) {
	met, longest := &tally{}, 0
	for seed := range uint(2000) {
		luck := spread(seed + 1234)
		nodes := 7 + int(luck%4)
		count := nodes + int(luck>>8%uint(api.MaxArcs-nodes+1))
		slack := []int64{0, 1, 3, weight / 2}[luck>>20%4]
		n := leaning(nodes, count, []int64{0, 3, 50, weight / 2}[luck>>16%4], slack, luck>>44%2 == 0, seed)
		n = lowered(n, []int{0, 0, 1, 3}[luck>>24%4], slack+1)
		expectAllKnown(t, n, byCount, met)
		for to := range nodes {
			arcs, _ := Way(n, 0, to)
			longest = max(longest, len(arcs))
		}
	}
	if met.ever < 1000 || met.found < 50000 || met.lost < 20000 || met.spared < 500 || longest < 7 {
		t.Errorf("a poor spread: %+v, the most arcs of a walk: %d", *met, longest)
	}
}

type wrongNet struct {
	name string
	n    api.Net
	want api.Errno
}

// wrongNets: of each kind of fault some, among them such as have a ring whose length is below 0 besides.
func wrongNets() []wrongNet {
	on, back := [3]int64{0, 1, -1}, [3]int64{1, 0, -1}
	most := func(most int64) api.Net {
		n := net(3, on, back)
		n.Arcs[1].Most = most
		return n
	}
	return []wrongNet{
		{"N -1", api.Net{N: -1}, api.ErrLarge},
		{"N least", api.Net{N: math.MinInt}, api.ErrLarge},
		{"N 11", net(11, on, back), api.ErrLarge},
		{"N 11, no arcs", net(11), api.ErrLarge},
		{"N greatest", api.Net{N: math.MaxInt}, api.ErrLarge},
		{"31 arcs", api.Net{N: 2, Arcs: slices.Repeat([]api.Arc{{To: 1}}, api.MaxArcs+1)}, api.ErrLarge},
		{"31 bad arcs", api.Net{N: 0, Arcs: make([]api.Arc, api.MaxArcs+1)}, api.ErrLarge},
		{"an arc of no nodes", net(0, on), api.ErrArg},
		{"From below", net(3, on, back, [3]int64{-1, 1, 1}), api.ErrArg},
		{"To above", net(3, on, back, [3]int64{1, 3, 1}), api.ErrArg},
		{"far off", api.Net{N: 3, Arcs: []api.Arc{{From: math.MinInt, To: math.MaxInt}}}, api.ErrArg},
		{"the same", net(3, on, back, [3]int64{1, 1, 1}), api.ErrForm},
		{"the same, below 0", net(1, [3]int64{0, 0, -1}), api.ErrForm},
		{"the same ahead of no node", net(3, [3]int64{1, 1, 1}, [3]int64{1, 3, 1}), api.ErrForm},
		{"Most below", most(-1), api.ErrRange},
		{"Most above", most(weight + 1), api.ErrRange},
		{"Most greatest", most(math.MaxInt64), api.ErrRange},
		{"Fee below", net(3, on, [3]int64{1, 0, -weight - 1}), api.ErrRange},
		{"Fee least", net(3, on, [3]int64{1, 0, math.MinInt64}), api.ErrRange},
		{"Fee above", net(3, on, back, [3]int64{0, 1, weight + 1}), api.ErrRange},
		{"range ahead of no node", net(3, [3]int64{0, 1, weight + 1}, [3]int64{1, 3, 1}), api.ErrRange},
	}
}

// H1, P2: what is wrong with the net is told first, whatever else is wrong.
func TestWrongNets(t *testing.T) {
	for _, c := range wrongNets() {
		expectAllWrong(t, c.name, c.n, c.want)
		for _, ends := range [][2]int{{0, 1}, {1, 1}, {2, 0}, {-1, 99}, {0, -1}, {math.MaxInt, math.MinInt}} {
			expectFarWrong(t, c.name, c.n, ends[0], c.want)
			expectFarWrong(t, c.name, c.n, ends[1], c.want)
			expectWayWrong(t, c.name, c.n, ends[0], ends[1], c.want)
		}
	}
}

// H1, K1, K2, P2: s or t is no node: ahead of ErrNone.
func TestWrongEnds(t *testing.T) {
	three := net(3, [3]int64{0, 1, 5}, [3]int64{1, 2, -2})
	ever := net(3, [3]int64{0, 1, 5}, [3]int64{1, 0, -6})
	for _, bad := range []int{-1, 3, 10, 11, 32, 64, math.MinInt, math.MaxInt} {
		for _, n := range []api.Net{three, ever} {
			expectFarWrong(t, "three nodes", n, bad, api.ErrArg)
			expectWayWrong(t, "three nodes, both", n, bad, bad, api.ErrArg)
			for node := range 3 {
				expectWayWrong(t, "three nodes", n, bad, node, api.ErrArg)
				expectWayWrong(t, "three nodes", n, node, bad, api.ErrArg)
			}
		}
	}
	for _, bad := range []int{-1, 0, 1} {
		expectFarWrong(t, "no node", api.Net{}, bad, api.ErrArg)
		expectWayWrong(t, "no node", api.Net{}, bad, bad, api.ErrArg)
	}
	expectWayWrong(t, "ten nodes", net(10), 9, 10, api.ErrArg)
}

// P3: the net that is handed in is neither changed nor read behind its length, and no answer is kept.
func TestNetIsLeftAlone(t *testing.T) {
	whole := net(3, [3]int64{0, 1, 5}, [3]int64{1, 2, -2}, [3]int64{0, 2, 1}, [3]int64{2, 0, -9}, [3]int64{77, 77, 1}).Arcs
	before := slices.Clone(whole)
	for range 2 {
		n := api.Net{N: 3, Arcs: whole[:2]}
		expectFar(t, "a piece of a list", n, 0, []int64{0, 5, 3})
		expectAll(t, "a piece of a list", n, [][]int64{{0, 5, 3}, {none, 0, -2}, {none, none, 0}})
		expectWay(t, "a piece of a list", n, 0, 2, []int{0, 1})
		expectWay(t, "a longer piece of a list", api.Net{N: 3, Arcs: whole[:3]}, 0, 2, []int{2})
		expectFarWrong(t, "a piece of a list with a ring", api.Net{N: 3, Arcs: whole[:4]}, 0, api.ErrNone)
		arcs, _ := Way(n, 0, 2)
		for i := range arcs[:cap(arcs)] {
			arcs[:cap(arcs)][i] = 99
		}
		if !slices.Equal(whole, before) {
			t.Errorf("the arcs became %v", whole)
		}
	}
}

// P3: no two lists of an answer share memory, not behind their lengths either.
func TestAnswersAreNewMemory(t *testing.T) {
	n := api.Net{N: api.MaxNodes, Arcs: row(api.MaxNodes, 1)}
	for range 2 {
		expectFar(t, "a row", n, 0, []int64{0, 1, 2, 3, 4, 5, 6, 7, 8, 9})
		far, is, _ := All(n)
		for s := range far {
			lengths, are := far[s][:cap(far[s])], is[s][:cap(is[s])]
			for i := range lengths {
				lengths[i] = int64(50 + s)
			}
			for i := range are {
				are[i] = s%2 == 0
			}
		}
		for s := range far {
			if slices.ContainsFunc(far[s], func(length int64) bool { return length != int64(50+s) }) || slices.Contains(is[s], s%2 != 0) {
				t.Errorf("row %d shares memory: %v, %v", s, far[s], is[s])
			}
		}
	}
}

// P3: what is answered is the same each time.
func TestAgain(t *testing.T) {
	for seed := range uint(100) {
		n := leaning(10, 30, 5, 1, false, seed)
		for to := range 10 {
			arcs, err := Way(n, 0, to)
			again, errAgain := Way(n, 0, to)
			if err != errAgain || !slices.Equal(arcs, again) {
				t.Errorf("Way of %v to %d: %v, %d, and then %v, %d", n, to, arcs, err, again, errAgain)
			}
		}
		far, is, err := All(n)
		again, isAgain, errAgain := All(n)
		if err != errAgain || !slices.EqualFunc(far, again, slices.Equal[[]int64]) || !slices.EqualFunc(is, isAgain, slices.Equal[[]bool]) {
			t.Errorf("All of %v: %v, %v, %d, and then %v, %v, %d", n, far, is, err, again, isAgain, errAgain)
		}
	}
}
