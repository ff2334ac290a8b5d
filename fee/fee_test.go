package fee

import (
	"math"
	"slices"
	"testing"

	"teamster/api"
	"teamster/flow"
)

// weight: the most that may go on an arc, and the greatest fee.
const weight = api.MaxWeight

// net: so many nodes, and arcs: each from a node to another one, how much may go, and its fee.
func net(n int, list ...[4]int64) api.Net {
	made := api.Net{N: n}
	for _, a := range list {
		made.Arcs = append(made.Arcs, api.Arc{From: int(a[0]), To: int(a[1]), Most: a[2], Fee: a[3]})
	}
	return made
}

// spread: a number that looks as if it came from nowhere, the same each time.
func spread(seed uint) uint {
	seed = (seed + 1) * 0x9E3779B97F4A7C15
	seed = (seed ^ seed>>30) * 0xBF58476D1CE4E5B9
	seed = (seed ^ seed>>27) * 0x94D049BB133111EB
	return seed ^ seed>>31
}

// spreadNet: so many nodes and arcs, each with a Most of up to most, and a Fee from low to high.
func spreadNet(nodes, count int, most, low, high int64, seed uint) api.Net {
	n := api.Net{N: nodes}
	for i := range count {
		luck := spread(seed*64 + uint(i))
		from := int(luck % uint(nodes))
		to := (from + 1 + int(luck>>8%uint(nodes-1))) % nodes
		a := api.Arc{From: from, To: to, Most: int64(luck >> 16 % uint(most+1)), Fee: low + int64(luck>>38%uint(high-low+1))}
		n.Arcs = append(n.Arcs, a)
	}
	return n
}

// costs: what all that goes costs together.
func costs(n api.Net, goes []int64) int64 {
	sum := int64(0)
	for i, a := range n.Arcs {
		sum += a.Fee * goes[i]
	}
	return sum
}

// oversOf: of each node what goes out of it, less what comes in.
func oversOf(n api.Net, goes []int64) [api.MaxNodes]int64 {
	var over [api.MaxNodes]int64
	for i, a := range n.Arcs {
		over[a.From] += goes[i]
		over[a.To] -= goes[i]
	}
	return over
}

// fits says whether there is a number for each arc, from 0 to its Most.
func fits(n api.Net, goes []int64) bool {
	if len(goes) != len(n.Arcs) {
		return false
	}
	for i, a := range n.Arcs {
		if goes[i] < 0 || goes[i] > a.Most {
			return false
		}
	}
	return true
}

// isFlow says whether the numbers are a flow of the value from one node to another one.
func isFlow(n api.Net, from, to int, goes []int64, value int64) bool {
	if !fits(n, goes) {
		return false
	}
	want := [api.MaxNodes]int64{}
	want[from], want[to] = value, -value
	return oversOf(n, goes) == want
}

// visitAll visits all that may go in the net, one after the other in the same list.
func visitAll(n api.Net, visit func(goes []int64)) {
	goes := make([]int64, len(n.Arcs))
	var choose func(place int)
	choose = func(place int) {
		if place == len(goes) {
			visit(goes)
			return
		}
		for goes[place] = 0; goes[place] <= n.Arcs[place].Most; goes[place]++ {
			choose(place + 1)
		}
	}
	choose(0)
}

// leastByTrial tries all that may go, and keeps of all overs what is the least that it costs, and how many cost just that.
func leastByTrial(n api.Net) map[[api.MaxNodes]int64][2]int64 {
	least := map[[api.MaxNodes]int64][2]int64{}
	visitAll(n, func(goes []int64) {
		over, cost := oversOf(n, goes), costs(n, goes)
		best, is := least[over]
		switch {
		case !is || cost < best[0]:
			least[over] = [2]int64{cost, 1}
		case cost == best[0]:
			least[over] = [2]int64{cost, best[1] + 1}
		}
	})
	return least
}

// ringSaves says whether a ring of changes saves, by the least that each two nodes are apart, by way of the first ones only, and then of more and more.
func ringSaves(n api.Net, goes []int64) bool {
	const none = math.MaxInt64 / 4
	var apart [api.MaxNodes][api.MaxNodes]int64
	for from := range n.N {
		for to := range n.N {
			if from != to {
				apart[from][to] = none
			}
		}
	}
	for i, a := range n.Arcs {
		if goes[i] < a.Most {
			apart[a.From][a.To] = min(apart[a.From][a.To], a.Fee)
		}
		if goes[i] > 0 {
			apart[a.To][a.From] = min(apart[a.To][a.From], -a.Fee)
		}
	}
	for by := range n.N {
		for from := range n.N {
			for to := range n.N {
				if apart[from][by] < none && apart[by][to] < none {
					apart[from][to] = min(apart[from][to], apart[from][by]+apart[by][to])
				}
			}
		}
		for node := range n.N {
			if apart[node][node] < 0 {
				return true
			}
		}
	}
	return false
}

// expectLeast holds the cost against what it is to be, and the flow against the value and the cost.
func expectLeast(t *testing.T, name string, n api.Net, from, to int, value, want int64) {
	t.Helper()
	cost, goes, err := Least(n, from, to, value)
	if err != api.OK || cost != want || !isFlow(n, from, to, goes, value) || costs(n, goes) != want {
		t.Errorf("Least of %s, %v, from %d to %d, %d: %d, %v, %d, want %d", name, n, from, to, value, cost, goes, err, want)
	}
}

// expectLeastWrong holds that Least tells an error, and nothing else with it.
func expectLeastWrong(t *testing.T, name string, n api.Net, from, to int, value int64, want api.Errno) {
	t.Helper()
	if cost, goes, err := Least(n, from, to, value); err != want || cost != 0 || len(goes) != 0 {
		t.Errorf("Least of %s, %v, from %d to %d, %d: %d, %v, %d, want %d", name, n, from, to, value, cost, goes, err, want)
	}
}

type leastCase struct {
	name     string
	n        api.Net
	from, to int
	costs    []int64 // of the values 0, 1, .. up to the greatest one
}

func plainNets() []leastCase {
	return []leastCase{
		{"two that join the same nodes", net(2, [4]int64{0, 1, 2, 1}, [4]int64{0, 1, 2, 3}), 0, 1, []int64{0, 1, 2, 5, 8}},
		{"two that join the same nodes, the dear one first", net(2, [4]int64{0, 1, 2, 3}, [4]int64{0, 1, 2, 1}), 0, 1, []int64{0, 1, 2, 5, 8}},
		{"no arcs", net(2), 0, 1, []int64{0}},
		{"no arcs, the last node to the first", net(10), 9, 0, []int64{0}},
		{"the only arc leads back", net(2, [4]int64{1, 0, 5, 1}), 0, 1, []int64{0}},
		{"an arc of 0", net(2, [4]int64{0, 1, 0, 1}), 0, 1, []int64{0}},
		{"an arc of 0 that would be cheaper", net(2, [4]int64{0, 1, 0, 1}, [4]int64{0, 1, 2, 7}), 0, 1, []int64{0, 7, 14}},
		{"an arc of 0 on the cheaper way", net(3, [4]int64{0, 1, 5, 1}, [4]int64{1, 2, 0, 1}, [4]int64{0, 2, 1, 9}), 0, 2, []int64{0, 9}},
		{"for nothing", net(2, [4]int64{0, 1, 3, 0}), 0, 1, []int64{0, 0, 0, 0}},
		{"for nothing ahead of for something", net(2, [4]int64{0, 1, 2, 4}, [4]int64{0, 1, 2, 0}), 0, 1, []int64{0, 0, 0, 4, 8}},
		{"a long way that is cheaper than a short one", net(4, [4]int64{0, 3, 2, 10}, [4]int64{0, 1, 2, 2}, [4]int64{1, 2, 1, 2}, [4]int64{2, 3, 2, 2}), 0, 3, []int64{0, 6, 16, 26}},
		{"an arc that leads back", net(3, [4]int64{0, 1, 2, 3}, [4]int64{1, 0, 2, 0}, [4]int64{1, 2, 2, 4}, [4]int64{2, 1, 2, 0}), 0, 2, []int64{0, 7, 14}},
		{"arcs to s and from t", net(3, [4]int64{0, 2, 2, 5}, [4]int64{1, 0, 9, 0}, [4]int64{2, 1, 9, 0}), 0, 2, []int64{0, 5, 10}},
		{"a ring beside the way", net(4, [4]int64{0, 3, 1, 4}, [4]int64{1, 2, 9, 0}, [4]int64{2, 1, 9, 0}), 0, 3, []int64{0, 4}},
		{"a node that leads on, but is not come to", net(4, [4]int64{0, 3, 1, 4}, [4]int64{1, 3, 9, 0}, [4]int64{2, 1, 9, 0}), 0, 3, []int64{0, 4}},
		{"the dearest way", net(10, [4]int64{9, 8, 1, weight}, [4]int64{8, 7, 1, weight}, [4]int64{7, 6, 1, weight}, [4]int64{6, 5, 1, weight}, [4]int64{5, 4, 1, weight},
			[4]int64{4, 3, 1, weight}, [4]int64{3, 2, 1, weight}, [4]int64{2, 1, 1, weight}, [4]int64{1, 0, 1, weight}), 9, 0, []int64{0, 9 * weight}},
	}
}

func knottyNets() []leastCase {
	// crossed: the cheapest way takes the arc between the two middle nodes; for more than that has room for it must be given up again.
	crossed := func(s, a, b, t int64) api.Net {
		return net(4, [4]int64{s, a, 1, 1}, [4]int64{a, b, 1, 1}, [4]int64{b, t, 1, 1}, [4]int64{s, b, 1, 4}, [4]int64{a, t, 1, 5})
	}
	return []leastCase{
		{"a way must be given up again", crossed(0, 1, 2, 3), 0, 3, []int64{0, 3, 11}},
		{"a way must be given up again, other numbers", crossed(2, 3, 0, 1), 2, 1, []int64{0, 3, 11}},
		{"a part of a way is given up again", net(4, [4]int64{0, 1, 2, 1}, [4]int64{1, 2, 2, 0}, [4]int64{2, 3, 2, 1}, [4]int64{0, 2, 2, 3}, [4]int64{1, 3, 1, 6}), 0, 3, []int64{0, 2, 4, 13}},
		{"a way for nothing is given up again", net(6, [4]int64{0, 1, 1, 0}, [4]int64{1, 4, 1, 0}, [4]int64{4, 5, 1, 0}, [4]int64{0, 2, 1, 1}, [4]int64{2, 4, 1, 1},
			[4]int64{1, 3, 1, 2}, [4]int64{3, 5, 1, 2}, [4]int64{2, 3, 1, 9}), 0, 5, []int64{0, 0, 6}},
		{"what was cheap is dear for more", net(5, [4]int64{0, 1, 3, 0}, [4]int64{0, 2, 3, 2}, [4]int64{1, 2, 3, 0}, [4]int64{1, 3, 2, 5}, [4]int64{2, 3, 2, 1}, [4]int64{3, 4, 3, 0}), 0, 4, []int64{0, 1, 2, 7}},
	}
}

// J1: the example of the tests, and others that are worked out by hand: each value from 0 to the greatest one, and one more.
func TestLeastByHand(t *testing.T) {
	for _, c := range append(plainNets(), knottyNets()...) {
		for value, want := range c.costs {
			expectLeast(t, c.name, c.n, c.from, c.to, int64(value), want)
		}
		expectLeastWrong(t, c.name, c.n, c.from, c.to, int64(len(c.costs)), api.ErrNone)
		expectLeastWrong(t, c.name, c.n, c.from, c.to, math.MaxInt64, api.ErrNone)
	}
}

// J1: all the most that can be, and one more.
func TestLeastAtItsGreatest(t *testing.T) {
	n := api.Net{N: 2, Arcs: slices.Repeat([]api.Arc{{From: 1, To: 0, Most: weight, Fee: weight}}, api.MaxArcs)}
	const all = api.MaxArcs * weight
	expectLeast(t, "30 arcs", n, 1, 0, all, all*weight)
	expectLeast(t, "30 arcs", n, 1, 0, all-1, (all-1)*weight)
	expectLeastWrong(t, "30 arcs", n, 1, 0, all+1, api.ErrNone)
	row := api.Net{N: api.MaxNodes}
	for node := range 9 {
		a := api.Arc{From: node, To: node + 1, Most: weight, Fee: weight}
		row.Arcs = append(row.Arcs, a, a, a)
	}
	expectLeast(t, "a row, three beside each other", row, 0, 9, 3*weight, 27*weight*weight)
	expectLeastWrong(t, "a row, three beside each other", row, 0, 9, 3*weight+1, api.ErrNone)
}

// expectLeastTrial holds Least of each two nodes and each value against trial, and tells how many times several flows cost the least.
func expectLeastTrial(t *testing.T, n api.Net) (some, several int) {
	t.Helper()
	least := leastByTrial(n)
	for from := range n.N {
		for to := range n.N {
			if from == to {
				continue
			}
			for value := int64(0); ; value++ {
				over := [api.MaxNodes]int64{}
				over[from], over[to] = value, -value
				want, is := least[over]
				if !is {
					expectLeastWrong(t, "one of many", n, from, to, value, api.ErrNone)
					break
				}
				expectLeast(t, "one of many", n, from, to, value, want[0])
				if value > 0 {
					some++
					if want[1] > 1 {
						several++
					}
				}
			}
		}
	}
	return some, several
}

// digitsNet: each two nodes have an arc each way, whose Most and Fee are of the number's digits, in these bases.
func digitsNet(nodes, mosts, fees, number int) api.Net {
	n := api.Net{N: nodes}
	for from := range nodes {
		for to := range nodes {
			if from != to {
				most, fee := number%mosts, number/mosts%fees
				n.Arcs = append(n.Arcs, api.Arc{From: from, To: to, Most: int64(most), Fee: int64(fee)})
				number /= mosts * fees
			}
		}
	}
	return n
}

// J1: all nets of three nodes with an arc each way, of a few sizes and fees, between each two nodes, against trial of all flows.
func TestLeastAllSmall(t *testing.T) {
	for number := range 1 << 12 {
		expectLeastTrial(t, digitsNet(3, 2, 2, number))
	}
	for number := range 531441 {
		if number%97 == 0 {
			expectLeastTrial(t, digitsNet(3, 3, 3, number))
		}
	}
}

// J1: a spread of nets of up to six nodes, against trial of all flows.
func TestLeastAgainstTrial(t *testing.T) {
	some, several := 0, 0
	for seed := range uint(1500) {
		luck := spread(seed + 5555)
		nodes := 2 + int(luck%5)
		count := int(luck >> 8 % 9)
		high := []int64{1, 3, 20, weight}[luck>>16%4]
		more, same := expectLeastTrial(t, spreadNet(nodes, count, 2, 0, high, seed))
		some += more
		several += same
	}
	if some < 5000 || several < 500 {
		t.Errorf("a poor spread: %d flows with a value, %d of them with others as cheap", some, several)
	}
}

// J1: a spread of greater nets, sparse and full, narrow and wide: what is told is a flow of the value, no ring saves, and from the greatest value on there is none.
// (A flow of the value that costs less would differ by rings, one of which would save.)
func TestLeastOfGreaterNets(t *testing.T) {
	some, met := 0, map[int64]int{}
	for seed := range uint(3000) {
		luck := spread(seed + 909)
		nodes := 4 + int(luck%7)
		count := 10 + int(luck>>8%(api.MaxArcs-9))
		most := []int64{1, 2, 9, weight}[luck>>16%4]
		n := spreadNet(nodes, count, most, 0, []int64{2, 9, 1000, weight}[luck>>20%4], seed)
		from := int(luck >> 24 % uint(nodes))
		to := (from + 1 + int(luck>>32%uint(nodes-1))) % nodes
		greatest, _, _ := flow.Most(n, from, to)
		for _, value := range []int64{0, greatest / 3, greatest / 2, max(greatest-1, 0), greatest} {
			cost, goes, err := Least(n, from, to, value)
			if err != api.OK || !isFlow(n, from, to, goes, value) || costs(n, goes) != cost || ringSaves(n, goes) {
				t.Errorf("Least of %v from %d to %d, %d: %d, %v, %d", n, from, to, value, cost, goes, err)
			}
			if is, err := Spare(n, goes); is || err != api.OK {
				t.Errorf("Spare of %v, %v: %t, %d", n, goes, is, err)
			}
		}
		expectLeastWrong(t, "one more than the greatest", n, from, to, greatest+1, api.ErrNone)
		met[min(greatest, 10)]++
		if greatest > 0 {
			some++
		}
	}
	if some < 1500 || met[1] < 50 || met[10] < 300 {
		t.Errorf("a poor spread: in %d something can go: %v", some, met)
	}
}

// wrongNets: of each kind of fault some, among them such as have a Fee below 0 besides.
func wrongNets() []wrongNet {
	below := [4]int64{0, 1, 1, -1}
	return []wrongNet{
		{"N -1", api.Net{N: -1}, api.ErrLarge},
		{"N least", api.Net{N: math.MinInt}, api.ErrLarge},
		{"N 11", net(11, below), api.ErrLarge},
		{"N greatest", api.Net{N: math.MaxInt}, api.ErrLarge},
		{"31 arcs", api.Net{N: 2, Arcs: slices.Repeat([]api.Arc{{To: 1}}, api.MaxArcs+1)}, api.ErrLarge},
		{"31 bad arcs", api.Net{N: 0, Arcs: make([]api.Arc, api.MaxArcs+1)}, api.ErrLarge},
		{"an arc of no nodes", net(0, below), api.ErrArg},
		{"From below", net(3, below, [4]int64{-1, 1, 1, 1}), api.ErrArg},
		{"To above", net(3, below, [4]int64{1, 3, 1, 1}), api.ErrArg},
		{"far off", api.Net{N: 3, Arcs: []api.Arc{{From: math.MinInt, To: math.MaxInt}}}, api.ErrArg},
		{"the same", net(3, below, [4]int64{1, 1, 1, 1}), api.ErrForm},
		{"the same ahead of no node", net(3, [4]int64{1, 1, 1, 1}, [4]int64{1, 3, 1, 1}), api.ErrForm},
		{"Most below", net(3, below, [4]int64{0, 1, -1, 1}), api.ErrRange},
		{"Most above", net(3, [4]int64{0, 1, weight + 1, 1}), api.ErrRange},
		{"Most greatest", net(3, [4]int64{0, 1, math.MaxInt64, 1}), api.ErrRange},
		{"Fee far below", net(3, [4]int64{0, 1, 1, -weight - 1}), api.ErrRange},
		{"Fee least", net(3, [4]int64{0, 1, 1, math.MinInt64}), api.ErrRange},
		{"Fee above", net(3, below, [4]int64{0, 1, 1, weight + 1}), api.ErrRange},
		{"range ahead of no node", net(3, [4]int64{0, 1, -1, 1}, [4]int64{1, 3, 1, 1}), api.ErrRange},
	}
}

type wrongNet struct {
	name string
	n    api.Net
	want api.Errno
}

// H1, P2: what is wrong with the net is told first, whatever else is wrong.
func TestWrongNets(t *testing.T) {
	for _, c := range wrongNets() {
		for _, ends := range [][2]int{{0, 1}, {1, 1}, {-1, 99}, {math.MaxInt, math.MinInt}} {
			for _, value := range []int64{0, 1, -1, math.MaxInt64} {
				expectLeastWrong(t, c.name, c.n, ends[0], ends[1], value, c.want)
			}
		}
		for _, goes := range [][]int64{nil, {-1}, make([]int64, len(c.n.Arcs)), slices.Repeat([]int64{-1}, len(c.n.Arcs)), make([]int64, len(c.n.Arcs)+1)} {
			expectSpare(t, c.name, c.n, goes, false, c.want)
		}
	}
}

// H1, P2: s or t is no node, or they are the same: ahead of what else Least tells.
func TestLeastWrongEnds(t *testing.T) {
	three := net(3, [4]int64{0, 1, 5, 2}, [4]int64{1, 2, 3, 2})
	saving := net(3, [4]int64{0, 1, 5, -2})
	for _, ends := range [][2]int{
		{0, 0}, {2, 2}, {-1, 0}, {0, -1}, {3, 0}, {0, 3}, {-1, -1}, {3, 3}, {-1, 3}, {32, 0}, {0, 32}, {64, 65},
		{math.MinInt, 0}, {0, math.MinInt}, {math.MaxInt, 0}, {0, math.MaxInt}, {math.MinInt, math.MaxInt},
	} {
		for _, value := range []int64{0, 1, -1, 99} {
			expectLeastWrong(t, "three nodes", three, ends[0], ends[1], value, api.ErrArg)
			expectLeastWrong(t, "a Fee below 0", saving, ends[0], ends[1], value, api.ErrArg)
			expectLeastWrong(t, "no node", api.Net{}, ends[0], ends[1], value, api.ErrArg)
		}
	}
	expectLeastWrong(t, "no node", api.Net{}, 0, 1, 0, api.ErrArg)
	expectLeastWrong(t, "one node", api.Net{N: 1}, 0, 1, 0, api.ErrArg)
	expectLeastWrong(t, "one node", api.Net{N: 1}, 0, 0, 0, api.ErrArg)
	expectLeastWrong(t, "ten nodes", api.Net{N: 10}, 0, 10, 0, api.ErrArg)
}

// J1: a Fee or the value is below 0: ahead of there being no such flow.
func TestLeastOutOfRange(t *testing.T) {
	good := [4]int64{0, 1, 5, 2}
	for _, value := range []int64{-1, -5, -6, math.MinInt64} {
		expectLeastWrong(t, "a value below 0", net(2, good), 0, 1, value, api.ErrRange)
		expectLeastWrong(t, "a value below 0, that goes the other way", net(2, good), 1, 0, value, api.ErrRange)
		expectLeastWrong(t, "a value below 0, no arcs", net(2), 0, 1, value, api.ErrRange)
	}
	for _, value := range []int64{0, 1, 5, 6, -1, math.MaxInt64} {
		expectLeastWrong(t, "a Fee just below 0", net(2, [4]int64{0, 1, 5, -1}), 0, 1, value, api.ErrRange)
		expectLeastWrong(t, "the least Fee", net(2, good, [4]int64{0, 1, 5, -weight}), 0, 1, value, api.ErrRange)
		expectLeastWrong(t, "a Fee below 0 of an arc of 0", net(2, good, [4]int64{0, 1, 0, -1}, good), 0, 1, value, api.ErrRange)
		expectLeastWrong(t, "a Fee below 0 beside the way", net(4, good, [4]int64{3, 2, 1, -1}), 0, 1, value, api.ErrRange)
	}
	expectLeast(t, "a Fee of 0", net(2, [4]int64{0, 1, 5, 0}), 0, 1, 5, 0)
}

// expectSpare holds what Spare answers against what it is to be.
func expectSpare(t *testing.T, name string, n api.Net, goes []int64, want bool, wantErr api.Errno) {
	t.Helper()
	if is, err := Spare(n, goes); is != want || err != wantErr {
		t.Errorf("Spare of %s, %v, %v: %t, %d, want %t, %d", name, n, goes, is, err, want, wantErr)
	}
}

type spareCase struct {
	name string
	n    api.Net
	goes []int64
	want bool
}

// ring: so many nodes, the last ones, each of which has an arc for 1 to the one ahead of it, and the first of these one to the last one;
// the first arc has a fee of its own.
func ring(n int, first, fee int64) api.Net {
	made := api.Net{N: 10}
	for i := range n {
		made.Arcs = append(made.Arcs, api.Arc{From: 9 - i, To: 9 - (i+1)%n, Most: 1, Fee: fee})
	}
	made.Arcs[0].Fee = first
	return made
}

func settledCases() []spareCase {
	return []spareCase{
		{"no nodes", net(0), nil, false},
		{"no nodes, an empty list", net(0), []int64{}, false},
		{"one node", net(1), nil, false},
		{"no arcs", net(10), nil, false},
		{"the cheap one is full", net(2, [4]int64{0, 1, 2, 1}, [4]int64{0, 1, 2, 3}), []int64{2, 1}, false},
		{"as cheap either way", net(2, [4]int64{0, 1, 2, 3}, [4]int64{0, 1, 2, 3}), []int64{0, 2}, false},
		{"the cheap one is of 0", net(2, [4]int64{0, 1, 0, 1}, [4]int64{0, 1, 2, 3}), []int64{0, 1}, false},
		{"an arc that saves, but leads nowhere", net(3, [4]int64{0, 1, 5, -9}, [4]int64{1, 2, 5, -9}), []int64{0, 0}, false},
		{"an arc that saves, and is full", net(2, [4]int64{0, 1, 5, -9}), []int64{5}, false},
		{"a dear arc, whose end is come to no other way", net(2, [4]int64{0, 1, 5, 9}), []int64{5}, false},
		{"a ring for nothing", net(3, [4]int64{0, 1, 1, 4}, [4]int64{1, 2, 1, -7}, [4]int64{2, 0, 1, 3}), []int64{0, 0, 0}, false},
		{"a ring for nothing, that is full", net(3, [4]int64{0, 1, 1, 4}, [4]int64{1, 2, 1, -7}, [4]int64{2, 0, 1, 3}), []int64{1, 1, 1}, false},
		{"a ring that saves, and is full", net(3, [4]int64{0, 1, 1, 4}, [4]int64{1, 2, 1, -8}, [4]int64{2, 0, 1, 3}), []int64{1, 1, 1}, false},
		{"a ring that saves, one arc of it full", net(3, [4]int64{0, 1, 2, 4}, [4]int64{1, 2, 1, -8}, [4]int64{2, 0, 2, 3}), []int64{1, 1, 1}, false},
		{"a ring that saves, one arc of it of 0", net(3, [4]int64{0, 1, 2, 4}, [4]int64{1, 2, 2, -8}, [4]int64{2, 0, 0, 3}), []int64{0, 0, 0}, false},
		{"a ring that costs", net(3, [4]int64{0, 1, 1, 4}, [4]int64{1, 2, 1, -6}, [4]int64{2, 0, 1, 3}), []int64{0, 0, 0}, false},
		{"the longest ring, one step saves what all others cost", ring(10, -900, 100), make([]int64, 10), false},
		{"the longest ring, one step costs more than all others save", ring(10, 901, -100), make([]int64, 10), false},
		{"the longest ring, each step saves all that can be, and it is full", ring(10, -weight, -weight), slices.Repeat([]int64{1}, 10), false},
		{"the long way for as much", net(3, [4]int64{0, 1, 1, 4}, [4]int64{1, 2, 1, 6}, [4]int64{0, 2, 1, 10}), []int64{1, 1, 0}, false},
		{"what goes is no flow, but the least of its kind", net(4, [4]int64{0, 1, 3, 4}, [4]int64{2, 3, 3, 6}, [4]int64{2, 1, 3, 1}), []int64{3, 2, 1}, false},
	}
}

func spareCases() []spareCase {
	return []spareCase{
		{"the cheap one has room", net(2, [4]int64{0, 1, 2, 1}, [4]int64{0, 1, 2, 3}), []int64{1, 2}, true},
		{"the cheap one has room, the other way round", net(2, [4]int64{0, 1, 2, 3}, [4]int64{0, 1, 2, 1}), []int64{2, 1}, true},
		{"room for one that saves but 1", net(2, [4]int64{0, 1, weight, weight}, [4]int64{0, 1, weight, weight - 1}), []int64{1, weight - 1}, true},
		{"the least fee", net(2, [4]int64{0, 1, 2, -weight + 1}, [4]int64{0, 1, 2, -weight}), []int64{1, 0}, true},
		{"to and fro for something", net(2, [4]int64{0, 1, 2, 3}, [4]int64{1, 0, 2, 0}), []int64{1, 1}, true},
		{"to and fro saves", net(2, [4]int64{0, 1, 2, 3}, [4]int64{1, 0, 2, -4}), []int64{0, 0}, true},
		{"a ring of three saves", net(3, [4]int64{0, 1, 1, 4}, [4]int64{1, 2, 1, -8}, [4]int64{2, 0, 1, 3}), []int64{0, 0, 0}, true},
		{"a ring of three costs, and is full", net(3, [4]int64{0, 1, 1, 4}, [4]int64{1, 2, 1, -6}, [4]int64{2, 0, 1, 3}), []int64{1, 1, 1}, true},
		{"a ring that is come to from nowhere, and leads to nothing", net(6, [4]int64{0, 1, 1, 9}, [4]int64{5, 4, 1, 4}, [4]int64{4, 3, 1, -8}, [4]int64{3, 5, 1, 3}), []int64{0, 0, 0, 0}, true},
		{"a ring that is come to for much only", net(4, [4]int64{0, 1, 1, weight}, [4]int64{1, 2, 1, weight}, [4]int64{2, 3, 1, 0}, [4]int64{3, 2, 1, -1}), []int64{0, 0, 0, 0}, true},
		{"the longest ring, one step saves more than all others cost", ring(10, -901, 100), make([]int64, 10), true},
		{"the longest ring, one step costs more than all others save, and it is full", ring(10, 901, -100), slices.Repeat([]int64{1}, 10), true},
		{"the longest ring, each step saves all that can be", ring(10, -weight, -weight), make([]int64, 10), true},
		{"the long way is cheaper", net(3, [4]int64{0, 1, 1, 4}, [4]int64{1, 2, 1, 5}, [4]int64{0, 2, 1, 10}), []int64{0, 0, 1}, true},
		{"a part may go the long way", net(3, [4]int64{0, 1, 7, 4}, [4]int64{1, 2, 3, 5}, [4]int64{0, 2, 7, 10}), []int64{2, 2, 7}, true},
		{"a way is better given up", net(4, [4]int64{0, 1, 1, 1}, [4]int64{1, 2, 1, 9}, [4]int64{2, 3, 1, 1}, [4]int64{0, 2, 1, 4}, [4]int64{1, 3, 1, 5}), []int64{1, 1, 1, 0, 0}, true},
		{"what goes is no flow", net(4, [4]int64{0, 1, 3, 4}, [4]int64{2, 1, 3, 6}, [4]int64{2, 1, 3, 1}), []int64{3, 2, 1}, true},
	}
}

// J2: worked out by hand.
func TestSpareByHand(t *testing.T) {
	for _, c := range append(settledCases(), spareCases()...) {
		expectSpare(t, c.name, c.n, c.goes, c.want, api.OK)
	}
	long := settledCases()[0].n
	expectSpare(t, "an empty list with something behind its length", long, make([]int64, 3)[:0], false, api.OK)
}

// J2: not as many numbers as arcs, ahead of numbers that are out of range.
func TestSpareWrong(t *testing.T) {
	n := net(3, [4]int64{0, 1, 2, 1}, [4]int64{0, 1, 2, 3}, [4]int64{1, 2, 0, 5})
	for _, goes := range [][]int64{nil, {}, {1}, {1, 1}, {1, 1, 0, 0}, {-1}, {-1, 3}, {9, 9, 9, 9}, make([]int64, 30), make([]int64, 31)} {
		expectSpare(t, "three arcs", n, goes, false, api.ErrForm)
	}
	expectSpare(t, "no arcs", net(3), []int64{0}, false, api.ErrForm)
	expectSpare(t, "no nodes", net(0), []int64{0}, false, api.ErrForm)
	for _, goes := range [][]int64{
		{-1, 0, 0}, {0, -1, 0}, {0, 0, -1}, {3, 0, 0}, {0, 3, 0}, {0, 0, 1}, {1, 2, 1}, {-1, 3, 9},
		{math.MinInt64, 0, 0}, {0, math.MaxInt64, 0}, {0, 0, math.MaxInt64},
	} {
		expectSpare(t, "three arcs", n, goes, false, api.ErrRange)
	}
	expectSpare(t, "all is full", n, []int64{2, 2, 0}, false, api.OK)
	expectSpare(t, "nothing goes", n, []int64{0, 0, 0}, false, api.OK)
}

// expectSpareTrial holds Spare of all that may go in a net against trial, and tells how many times there is some to spare, and how many times none.
func expectSpareTrial(t *testing.T, n api.Net) (some, none int) {
	t.Helper()
	least := leastByTrial(n)
	visitAll(n, func(goes []int64) {
		want := least[oversOf(n, goes)][0] < costs(n, goes)
		expectSpare(t, "one of many", n, goes, want, api.OK)
		if want {
			some++
		} else {
			none++
		}
	})
	return some, none
}

// J2: all that may go in a spread of nets of up to six nodes, with fees below and above 0, against trial.
func TestSpareAgainstTrial(t *testing.T) {
	some, none := 0, 0
	for seed := range uint(1500) {
		luck := spread(seed + 8888)
		nodes := 2 + int(luck%5)
		high := []int64{1, 2, 20, weight}[luck>>16%4]
		low := []int64{0, -1, -high, -high / 3}[luck>>20%4]
		more, less := expectSpareTrial(t, spreadNet(nodes, int(luck>>8%8), 2, low, high, seed))
		some += more
		none += less
	}
	if some < 20000 || none < 20000 {
		t.Errorf("a poor spread: %d times some to spare, %d times none", some, none)
	}
}

// J2: a spread of greater nets, with fees below and above 0, and of what goes in them, held against how far the nodes are apart.
func TestSpareOfGreaterNets(t *testing.T) {
	met := map[bool]int{}
	for seed := range uint(6000) {
		luck := spread(seed + 4242)
		nodes := 4 + int(luck%7)
		count := 3 + int(luck>>8%(api.MaxArcs-2))
		high := []int64{2, 9, 1000, weight}[luck>>20%4]
		n := spreadNet(nodes, count, []int64{1, 2, 9, weight}[luck>>16%4], -high/int64(2+luck>>24%30), high, seed)
		goes := make([]int64, count)
		for i, a := range n.Arcs {
			if luck>>30%2 == 0 {
				goes[i] = int64(spread(seed*100+uint(i)) % uint(a.Most+1))
			}
		}
		want := ringSaves(n, goes)
		expectSpare(t, "one of many", n, goes, want, api.OK)
		met[want]++
	}
	if met[true] < 1000 || met[false] < 1000 {
		t.Errorf("a poor spread: %v", met)
	}
}

// expectAssign holds the list and what it costs against what they are to be.
func expectAssign(t *testing.T, name string, fees [][]int64, want []int, wantSum int64) {
	t.Helper()
	if list, sum, err := Assign(fees); err != api.OK || sum != wantSum || !slices.Equal(list, want) {
		t.Errorf("Assign of %s, %v: %v, %d, %d, want %v, %d", name, fees, list, sum, err, want, wantSum)
	}
}

// alike: so many rows of as many numbers, all the same.
func alike(rows int, fee int64) [][]int64 {
	fees := make([][]int64, rows)
	for who := range fees {
		fees[who] = slices.Repeat([]int64{fee}, rows)
	}
	return fees
}

// slanted: so many rows, whose fees are products: of all lists the one that falls costs the least, or, where by is below 0, the one that rises.
func slanted(rows int, by int64) [][]int64 {
	fees := alike(rows, 0)
	for who := range fees {
		for what := range fees {
			fees[who][what] = by * int64(who*what)
		}
	}
	return fees
}

// J3: the chapter's example, and others that are worked out by hand.
func TestAssignByHand(t *testing.T) {
	for _, c := range []struct {
		name string
		fees [][]int64
		want []int
		sum  int64
	}{
		{"no rows", nil, nil, 0},
		{"no rows, an empty list", [][]int64{}, nil, 0},
		{"one", [][]int64{{7}}, []int{0}, 7},
		{"one below 0", [][]int64{{-7}}, []int{0}, -7},
		{"the chapter's example", [][]int64{{1, 2}, {3, 1}}, []int{0, 1}, 2},
		{"crossed", [][]int64{{2, 1}, {1, 3}}, []int{1, 0}, 2},
		{"as much either way", [][]int64{{1, 2}, {3, 4}}, []int{0, 1}, 5},
		{"as much either way, other fees first", [][]int64{{4, 2}, {3, 1}}, []int{0, 1}, 5},
		{"what is best for the first one is not best for all", [][]int64{{1, 2}, {1, 9}}, []int{1, 0}, 3},
		{"what is best for the first two is not best for all", [][]int64{{1, 5, 9}, {5, 1, 3}, {9, 1, 9}}, []int{0, 2, 1}, 5},
		{"each has what another one would rather", [][]int64{{0, 1, 9}, {9, 0, 1}, {0, 9, 9}}, []int{1, 2, 0}, 2},
		{"two lists for the least, the first one tells", [][]int64{{5, 1, 1}, {1, 5, 5}, {1, 5, 5}}, []int{1, 0, 2}, 7},
		{"two lists for the least, the second one tells", [][]int64{{0, 9, 9}, {9, 3, 2}, {9, 2, 1}}, []int{0, 1, 2}, 4},
		{"fees below 0", [][]int64{{-1, -5}, {-2, -3}}, []int{1, 0}, -7},
		{"fees on both sides", [][]int64{{-4, 4, 0}, {4, -1, -4}, {3, 0, 4}}, []int{0, 2, 1}, -8},
		{"all the same", alike(8, 3), []int{0, 1, 2, 3, 4, 5, 6, 7}, 24},
		{"nothing costs anything", alike(7, 0), []int{0, 1, 2, 3, 4, 5, 6}, 0},
		{"all the most", alike(8, weight), []int{0, 1, 2, 3, 4, 5, 6, 7}, 8 * weight},
		{"all the least", alike(8, -weight), []int{0, 1, 2, 3, 4, 5, 6, 7}, -8 * weight},
		{"falling", slanted(8, 1), []int{7, 6, 5, 4, 3, 2, 1, 0}, 56},
		{"rising", slanted(8, -1), []int{0, 1, 2, 3, 4, 5, 6, 7}, -140},
	} {
		expectAssign(t, c.name, c.fees, c.want, c.sum)
	}
}

// assignByTrial goes through all lists in their order, and tells besides the first one that costs the least how many there are.
func assignByTrial(fees [][]int64) (best []int, least int64, count int) {
	least = math.MaxInt64
	list := make([]int, len(fees))
	var choose func(who int, taken uint, sum int64)
	choose = func(who int, taken uint, sum int64) {
		if who == len(fees) {
			switch {
			case sum < least:
				best, least, count = slices.Clone(list), sum, 1
			case sum == least:
				count++
			}
			return
		}
		for what, fee := range fees[who] {
			if taken&(1<<what) == 0 {
				list[who] = what
				choose(who+1, taken|1<<what, sum+fee)
			}
		}
	}
	choose(0, 0, 0)
	return best, least, count
}

// expectAssignTrial holds Assign against trial, and tells how many lists cost the least.
func expectAssignTrial(t *testing.T, fees [][]int64) int {
	t.Helper()
	want, sum, count := assignByTrial(fees)
	expectAssign(t, "one of many", fees, want, sum)
	return count
}

// J3: all fees of up to four rows, of a few numbers, against trial.
func TestAssignAllSmall(t *testing.T) {
	for _, c := range []struct{ rows, base, count int }{{0, 1, 1}, {1, 9, 9}, {2, 5, 625}, {3, 3, 19683}, {4, 2, 65536}} {
		for number := range c.count {
			fees := alike(c.rows, 0)
			rest := number
			for _, row := range fees {
				for what := range row {
					row[what] = int64(rest%c.base - c.base/2)
					rest /= c.base
				}
			}
			expectAssignTrial(t, fees)
		}
	}
}

// spreadFees: so many rows of fees from low to high.
func spreadFees(rows int, low, high int64, seed uint) [][]int64 {
	fees := alike(rows, 0)
	for who, row := range fees {
		for what := range row {
			row[what] = low + int64(spread(seed*64+uint(who*8+what))%uint(high-low+1))
		}
	}
	return fees
}

// J3: a spread of fees of up to eight rows, against trial.
func TestAssignAgainstTrial(t *testing.T) {
	several, eight := 0, 0
	for seed := range uint(600) {
		luck := spread(seed + 31415)
		rows := 4 + int(luck%4)
		if seed%20 == 0 {
			rows = 8
		}
		high := []int64{1, 3, 20, weight}[luck>>16%4]
		low := []int64{0, 1, -1, -high}[luck>>20%4]
		if expectAssignTrial(t, spreadFees(rows, low, high, seed)) > 1 {
			several++
			if rows == 8 {
				eight++
			}
		}
	}
	if several < 200 || eight < 8 {
		t.Errorf("a poor spread: %d times several lists cost the least, %d of them of eight rows", several, eight)
	}
}

// withFee gives the fees with one of them changed.
func withFee(fees [][]int64, who, what int, fee int64) [][]int64 {
	fees[who][what] = fee
	return fees
}

// withRow gives the fees with another row in the place of one.
func withRow(fees [][]int64, who int, row ...int64) [][]int64 {
	fees[who] = row
	return fees
}

// J3: which errors are told, and which first.
func TestAssignWrong(t *testing.T) {
	for _, c := range []struct {
		name string
		fees [][]int64
		want api.Errno
	}{
		{"nine rows", alike(9, 1), api.ErrLarge},
		{"nine rows that are too short", make([][]int64, 9), api.ErrLarge},
		{"nine rows, out of range", alike(9, weight+1), api.ErrLarge},
		{"very many rows", make([][]int64, 100000), api.ErrLarge},
		{"a row with nothing", [][]int64{nil}, api.ErrForm},
		{"rows with nothing", make([][]int64, 8), api.ErrForm},
		{"a row with too few", withRow(alike(3, 1), 0, 1, 1), api.ErrForm},
		{"the last row with too few", withRow(alike(3, 1), 2, 1, 1), api.ErrForm},
		{"a row with too many", withRow(alike(3, 1), 1, 1, 1, 1, 1), api.ErrForm},
		{"one row with two", [][]int64{{1, 1}}, api.ErrForm},
		{"rows that are all too long", [][]int64{{1, 1, 1}, {1, 1, 1}}, api.ErrForm},
		{"rows that are all too short", [][]int64{{1, 1}, {1, 1}, {1, 1}}, api.ErrForm},
		{"a row with very many", withRow(alike(8, 1), 7, make([]int64, 100000)...), api.ErrForm},
		{"a row with too few, that is out of range", withRow(alike(3, 1), 1, weight+1), api.ErrForm},
		{"a row with too few, one ahead of it is out of range", withRow(withFee(alike(3, 1), 0, 0, -weight-1), 2, 1), api.ErrForm},
		{"a row with too many, the one behind it is out of range", withRow(withFee(alike(2, 1), 1, 1, weight+1), 0, 1, 1, 1), api.ErrForm},
		{"a fee just above", withFee(alike(3, 1), 0, 0, weight+1), api.ErrRange},
		{"a fee just below", withFee(alike(3, 1), 2, 2, -weight-1), api.ErrRange},
		{"the greatest fee", withFee(alike(8, 1), 7, 0, math.MaxInt64), api.ErrRange},
		{"the least fee", withFee(alike(8, 1), 0, 7, math.MinInt64), api.ErrRange},
		{"one fee alone", alike(1, weight+1), api.ErrRange},
	} {
		if list, sum, err := Assign(c.fees); err != c.want || len(list) != 0 || sum != 0 {
			t.Errorf("Assign of %s: %v, %d, %d, want %d", c.name, list, sum, err, c.want)
		}
	}
	expectAssign(t, "fees at both ends", [][]int64{{weight, -weight}, {-weight, weight}}, []int{1, 0}, -2*weight)
}

// P3: the net that is handed in is neither changed nor read behind its length, and no answer is kept.
func TestNetIsLeftAlone(t *testing.T) {
	whole := net(3, [4]int64{0, 1, 5, 2}, [4]int64{1, 2, 3, 2}, [4]int64{0, 2, 8, 1}, [4]int64{77, 77, -1, -1}).Arcs
	goes := []int64{5, 3, 8, -1, 99}
	wholeBefore, goesBefore := slices.Clone(whole), slices.Clone(goes)
	n := api.Net{N: 3, Arcs: whole[:2]}
	for range 2 {
		expectLeast(t, "a piece of a list", n, 0, 2, 2, 8)
		expectLeastWrong(t, "a piece of a list", n, 0, 2, 4, api.ErrNone)
		expectSpare(t, "a piece of a list", n, goes[:2], false, api.OK)
		expectSpare(t, "a longer piece of a list", api.Net{N: 3, Arcs: whole[:3]}, []int64{1, 1, 7}, true, api.OK)
		expectSpare(t, "pieces of other lengths", n, goes[:3], false, api.ErrForm)
		_, first, _ := Least(n, 0, 2, 2)
		for i := range first[:cap(first)] {
			first[:cap(first)][i] = 99
		}
		if !slices.Equal(whole, wholeBefore) || !slices.Equal(goes, goesBefore) {
			t.Errorf("the arcs became %v, and what goes %v", whole, goes)
		}
	}
}

// P3: the fees that are handed in are neither changed nor read behind their lengths, and no answer is kept.
func TestFeesAreLeftAlone(t *testing.T) {
	rows := [][]int64{{2, 1, math.MaxInt64}, {1, 2, -9}, {0, 0, 0}, nil}
	fees := [][]int64{rows[0][:2], rows[1][:2], rows[2], rows[3]}
	for range 2 {
		expectAssign(t, "a piece of a list", fees[:2], []int{1, 0}, 2)
		list, _, _ := Assign(fees[:2])
		for i := range list[:cap(list)] {
			list[:cap(list)][i] = 99
		}
	}
	want := [][]int64{{2, 1, math.MaxInt64}, {1, 2, -9}, {0, 0, 0}, nil}
	if !slices.EqualFunc(rows, want, slices.Equal[[]int64]) || len(fees[0]) != 2 || len(fees[1]) != 2 || len(fees[2]) != 3 {
		t.Errorf("the fees became %v, %v", rows, fees)
	}
}

// P3: rows may be one and the same list.
func TestAssignOfOneRowTwice(t *testing.T) {
	row := []int64{3, 1, 2}
	expectAssign(t, "one row three times", [][]int64{row, row, row}, []int{0, 1, 2}, 6)
}

// P3: what is answered is the same each time.
func TestAgain(t *testing.T) {
	for seed := range uint(200) {
		n := spreadNet(8, 24, 5, 0, 3, seed)
		value, _, _ := flow.Most(n, 0, 7)
		cost, goes, err := Least(n, 0, 7, value)
		again, goesAgain, errAgain := Least(n, 0, 7, value)
		if cost != again || !slices.Equal(goes, goesAgain) || err != errAgain {
			t.Errorf("Least of %v: %d, %v, %d, and then %d, %v, %d", n, cost, goes, err, again, goesAgain, errAgain)
		}
	}
}
