package flow

import (
	"math"
	"slices"
	"testing"

	"teamster/api"
)

// arcs: each from a node to another one, and how much may go.
func arcs(list ...[3]int) []api.Arc {
	var made []api.Arc
	for _, a := range list {
		made = append(made, api.Arc{From: a[0], To: a[1], Most: int64(a[2])})
	}
	return made
}

func net(n int, list ...[3]int) api.Net {
	return api.Net{N: n, Arcs: arcs(list...)}
}

// withArcs: three nodes and these arcs.
func withArcs(list ...api.Arc) api.Net {
	return api.Net{N: 3, Arcs: list}
}

// spread: a number that looks as if it came from nowhere, the same each time.
func spread(seed uint) uint {
	seed = (seed + 1) * 0x9E3779B97F4A7C15
	seed = (seed ^ seed>>30) * 0xBF58476D1CE4E5B9
	seed = (seed ^ seed>>27) * 0x94D049BB133111EB
	return seed ^ seed>>31
}

type checkCase struct {
	name string
	n    api.Net
	want api.Errno
}

func largeNets() []checkCase {
	return []checkCase{
		{"N -1", api.Net{N: -1}, api.ErrLarge},
		{"N least", api.Net{N: math.MinInt}, api.ErrLarge},
		{"N 11", api.Net{N: api.MaxNodes + 1}, api.ErrLarge},
		{"N greatest", api.Net{N: math.MaxInt}, api.ErrLarge},
		{"N 11, good arcs", net(11, [3]int{0, 1, 1}, [3]int{10, 1, 1}), api.ErrLarge},
		{"N -1, a bad arc", net(-1, [3]int{0, 0, -1}), api.ErrLarge},
		{"N 11, a bad arc", net(11, [3]int{0, 99, 0}), api.ErrLarge},
		{"31 arcs, all good", api.Net{N: 2, Arcs: slices.Repeat(arcs([3]int{0, 1, 1}), api.MaxArcs+1)}, api.ErrLarge},
		{"31 arcs, all bad", api.Net{N: 0, Arcs: make([]api.Arc, api.MaxArcs+1)}, api.ErrLarge},
		{"very many arcs", api.Net{N: 2, Arcs: make([]api.Arc, 100000)}, api.ErrLarge},
	}
}

func badArcNets() []checkCase {
	good := api.Arc{From: 0, To: 1, Most: 1}
	noNode := api.Arc{From: 0, To: 3}
	loop := api.Arc{From: 1, To: 1}
	below := api.Arc{From: 0, To: 1, Most: -1}
	return []checkCase{
		{"no node, an arc", net(0, [3]int{0, 1, 0}), api.ErrArg},
		{"30 arcs, all from a node to itself, of no node", api.Net{N: 0, Arcs: make([]api.Arc, api.MaxArcs)}, api.ErrArg},
		{"From below", withArcs(api.Arc{From: -1, To: 1}), api.ErrArg},
		{"From above", withArcs(api.Arc{From: 3, To: 1}), api.ErrArg},
		{"To below", withArcs(api.Arc{From: 1, To: -1}), api.ErrArg},
		{"To above", withArcs(noNode), api.ErrArg},
		{"From, To far off", withArcs(api.Arc{From: math.MinInt, To: math.MaxInt}), api.ErrArg},
		{"the same, no node", withArcs(api.Arc{From: 3, To: 3}), api.ErrArg},
		{"no node, Most out of range", withArcs(api.Arc{From: 0, To: 3, Most: -1}), api.ErrArg},
		{"the same", withArcs(loop), api.ErrForm},
		{"the same, Most and Fee out of range", withArcs(api.Arc{From: 1, To: 1, Most: -1, Fee: math.MaxInt64}), api.ErrForm},
		{"Most -1", withArcs(below), api.ErrRange},
		{"Most above", withArcs(api.Arc{From: 0, To: 1, Most: api.MaxWeight + 1}), api.ErrRange},
		{"Most least", withArcs(api.Arc{From: 0, To: 1, Most: math.MinInt64}), api.ErrRange},
		{"Most greatest", withArcs(api.Arc{From: 0, To: 1, Most: math.MaxInt64}), api.ErrRange},
		{"Fee below", withArcs(api.Arc{From: 0, To: 1, Fee: -api.MaxWeight - 1}), api.ErrRange},
		{"Fee above", withArcs(api.Arc{From: 0, To: 1, Fee: api.MaxWeight + 1}), api.ErrRange},
		{"Fee least", withArcs(api.Arc{From: 0, To: 1, Fee: math.MinInt64}), api.ErrRange},
		{"Fee greatest", withArcs(api.Arc{From: 0, To: 1, Fee: math.MaxInt64}), api.ErrRange},
		{"no node ahead of the same ahead of range", withArcs(good, noNode, loop, below), api.ErrArg},
		{"the same ahead of no node", withArcs(good, loop, noNode, below), api.ErrForm},
		{"range ahead of no node", withArcs(good, below, noNode, loop), api.ErrRange},
		{"range ahead of the same", withArcs(below, loop), api.ErrRange},
		{"the same ahead of range", withArcs(loop, below), api.ErrForm},
		{"the last one of 30", api.Net{N: 3, Arcs: append(slices.Repeat([]api.Arc{good}, api.MaxArcs-1), below)}, api.ErrRange},
	}
}

func wrongNets() []checkCase {
	return append(largeNets(), badArcNets()...)
}

func rightNets() []checkCase {
	return []checkCase{
		{"nothing", api.Net{}, api.OK},
		{"an empty list", api.Net{N: 0, Arcs: []api.Arc{}}, api.OK},
		{"one node", api.Net{N: 1}, api.OK},
		{"ten nodes", api.Net{N: api.MaxNodes}, api.OK},
		{"the first and the last node", net(10, [3]int{0, 9, 1}, [3]int{9, 0, 1}), api.OK},
		{"30 arcs that join the same nodes", api.Net{N: 2, Arcs: slices.Repeat(arcs([3]int{0, 1, 1}), api.MaxArcs)}, api.OK},
		{"Most 0 and at its greatest", net(2, [3]int{0, 1, 0}, [3]int{0, 1, api.MaxWeight}), api.OK},
		{"Fee at both ends", withArcs(api.Arc{From: 0, To: 1, Fee: api.MaxWeight}, api.Arc{From: 0, To: 1, Fee: -api.MaxWeight}), api.OK},
	}
}

// H1: what Check tells.
func TestCheck(t *testing.T) {
	for _, c := range append(wrongNets(), rightNets()...) {
		if got := Check(c.n); got != c.want {
			t.Errorf("%s: got %d, want %d", c.name, got, c.want)
		}
	}
}

// expectWrong holds that Most and Cut tell an error, and nothing else with it.
func expectWrong(t *testing.T, name string, n api.Net, from, to int, want api.Errno) {
	t.Helper()
	if value, goes, err := Most(n, from, to); err != want || value != 0 || len(goes) != 0 {
		t.Errorf("Most of %s from %d to %d: %d, %v, %d, want %d", name, from, to, value, goes, err, want)
	}
	if cut, size, err := Cut(n, from, to); err != want || cut != 0 || size != 0 {
		t.Errorf("Cut of %s from %d to %d: %b, %d, %d, want %d", name, from, to, cut, size, err, want)
	}
}

// H1, P2: the calls tell Check's error first, whatever s and t are.
func TestCallsTellCheckFirst(t *testing.T) {
	for _, c := range wrongNets() {
		for _, ends := range [][2]int{{0, 1}, {1, 1}, {-1, 99}, {math.MaxInt, math.MinInt}} {
			expectWrong(t, c.name, c.n, ends[0], ends[1], c.want)
		}
	}
}

// H1, P2: s or t is no node, or they are the same.
func TestWrongEnds(t *testing.T) {
	three := net(3, [3]int{0, 1, 5}, [3]int{1, 2, 3})
	for _, ends := range [][2]int{
		{0, 0}, {2, 2}, {-1, 0}, {0, -1}, {3, 0}, {0, 3}, {-1, -1}, {3, 3}, {-1, 3}, {32, 0}, {0, 32}, {64, 65},
		{math.MinInt, 0}, {0, math.MinInt}, {math.MaxInt, 0}, {0, math.MaxInt}, {math.MinInt, math.MaxInt},
	} {
		expectWrong(t, "three nodes", three, ends[0], ends[1], api.ErrArg)
	}
	expectWrong(t, "no node", api.Net{}, 0, 0, api.ErrArg)
	expectWrong(t, "no node", api.Net{}, 0, 1, api.ErrArg)
	expectWrong(t, "one node", api.Net{N: 1}, 0, 0, api.ErrArg)
	expectWrong(t, "one node", api.Net{N: 1}, 0, 1, api.ErrArg)
	expectWrong(t, "ten nodes", api.Net{N: 10}, 0, 10, api.ErrArg)
}

// overs gives of each node what goes out of it, less what comes in.
func overs(n api.Net, goes []int64) []int64 {
	over := make([]int64, n.N)
	for i, a := range n.Arcs {
		over[a.From] += goes[i]
		over[a.To] -= goes[i]
	}
	return over
}

// isFlow says whether the numbers are a flow of the value from one node to another.
func isFlow(n api.Net, from, to int, goes []int64, value int64) bool {
	if len(goes) != len(n.Arcs) {
		return false
	}
	for i, a := range n.Arcs {
		if goes[i] < 0 || goes[i] > a.Most {
			return false
		}
	}
	for node, over := range overs(n, goes) {
		if node == from && over != value || node != from && node != to && over != 0 {
			return false
		}
	}
	return true
}

// sizeOf: how much may go out of a set of nodes.
func sizeOf(n api.Net, set uint32) int64 {
	sum := int64(0)
	for _, a := range n.Arcs {
		if set&(1<<a.From) != 0 && set&(1<<a.To) == 0 {
			sum += a.Most
		}
	}
	return sum
}

// cutByTrial tries all words, and tells besides the first one of the least size how many there are.
func cutByTrial(n api.Net, from, to int) (cut uint32, size int64, count int) {
	size = math.MaxInt64
	for set := range uint32(1) << n.N {
		if set&(1<<from) == 0 || set&(1<<to) != 0 {
			continue
		}
		switch tried := sizeOf(n, set); {
		case tried < size:
			cut, size, count = set, tried, 1
		case tried == size:
			count++
		}
	}
	return cut, size, count
}

// expectAnswers holds the value, the flow and the cut against what they are to be.
func expectAnswers(t *testing.T, name string, n api.Net, from, to int, value int64, cut uint32) {
	t.Helper()
	if got, goes, err := Most(n, from, to); err != api.OK || got != value || !isFlow(n, from, to, goes, value) {
		t.Errorf("Most of %s, %v, from %d to %d: %d, %v, %d, want %d", name, n, from, to, got, goes, err, value)
	}
	if got, size, err := Cut(n, from, to); err != api.OK || got != cut || size != value {
		t.Errorf("Cut of %s, %v, from %d to %d: %b, %d, %d, want %b, %d", name, n, from, to, got, size, err, cut, value)
	}
}

type handCase struct {
	name     string
	n        api.Net
	from, to int
	value    int64
	cut      uint32
}

func plainNets() []handCase {
	return []handCase{
		{"the chapter's example", net(2, [3]int{0, 1, 5}), 0, 1, 5, 0b1},
		{"the chapter's example, turned round", net(2, [3]int{1, 0, 5}), 1, 0, 5, 0b10},
		{"no arcs", api.Net{N: 2}, 0, 1, 0, 0b1},
		{"no arcs, the last node to the first", api.Net{N: 10, Arcs: []api.Arc{}}, 9, 0, 0, 1 << 9},
		{"the only arc leads back", net(2, [3]int{1, 0, 5}), 0, 1, 0, 0b1},
		{"nothing can go, but a way leads on", net(4, [3]int{0, 1, 5}, [3]int{1, 2, 5}), 0, 3, 0, 0b111},
		{"an arc of 0", net(2, [3]int{0, 1, 0}), 0, 1, 0, 0b1},
		{"an arc of 0 at the end", net(3, [3]int{0, 1, 5}, [3]int{1, 2, 0}), 0, 2, 0, 0b11},
		{"an arc of 0 beside another one", net(2, [3]int{0, 1, 0}, [3]int{0, 1, 7}), 0, 1, 7, 0b1},
		{"two that join the same nodes", net(2, [3]int{0, 1, 2}, [3]int{0, 1, 3}), 0, 1, 5, 0b1},
		{"two that join the same nodes, one each way", net(2, [3]int{0, 1, 2}, [3]int{1, 0, 3}), 0, 1, 2, 0b1},
		{"two that join the same nodes, the other way", net(2, [3]int{0, 1, 2}, [3]int{1, 0, 3}), 1, 0, 3, 0b10},
		{"a row, the second one narrow", net(3, [3]int{0, 1, 5}, [3]int{1, 2, 3}), 0, 2, 3, 0b11},
		{"a row, the first one narrow", net(3, [3]int{0, 1, 3}, [3]int{1, 2, 5}), 0, 2, 3, 0b1},
		{"arcs to s and from t", net(3, [3]int{0, 2, 4}, [3]int{1, 0, 9}, [3]int{2, 1, 9}), 0, 2, 4, 0b1},
		{"a ring beside the way", net(4, [3]int{0, 3, 4}, [3]int{1, 2, 9}, [3]int{2, 1, 9}), 0, 3, 4, 0b1},
		{"all the most that can be", api.Net{N: 2, Arcs: slices.Repeat(arcs([3]int{0, 1, api.MaxWeight}), api.MaxArcs)}, 0, 1, api.MaxArcs * api.MaxWeight, 0b1},
	}
}

func knottyNets() []handCase {
	const w = api.MaxWeight
	return []handCase{
		{"several cuts, the lesser word is s alone", net(3, [3]int{0, 1, 3}, [3]int{1, 2, 3}), 0, 2, 3, 0b1},
		{"several cuts, s is the last node", net(3, [3]int{2, 1, 3}, [3]int{1, 0, 3}), 2, 0, 3, 0b100},
		{"several cuts, a node beside is in none", net(4, [3]int{1, 2, 3}, [3]int{2, 3, 3}), 1, 3, 3, 0b10},
		{"several cuts, the least one of three nodes", net(6, [3]int{0, 2, 9}, [3]int{0, 4, 9}, [3]int{2, 1, 2}, [3]int{4, 1, 1}, [3]int{1, 3, 3}, [3]int{3, 5, 3}), 0, 5, 3, 0b10101},
		{"the first way must be taken back", net(4, [3]int{0, 1, 1}, [3]int{1, 2, 1}, [3]int{2, 3, 1}, [3]int{0, 2, 1}, [3]int{1, 3, 1}), 0, 3, 2, 0b1},
		{"a part of what goes is taken back", net(6, [3]int{0, 1, 5}, [3]int{1, 2, 3}, [3]int{2, 5, 4}, [3]int{0, 3, 4}, [3]int{3, 2, 4}, [3]int{1, 4, 2}, [3]int{4, 5, 3}), 0, 5, 6, 0b1111},
		{"a narrow one between two wide ways", net(4, [3]int{0, 1, w}, [3]int{0, 2, w}, [3]int{1, 2, 1}, [3]int{1, 3, w}, [3]int{2, 3, w}), 0, 3, 2 * w, 0b1},
		{"a narrow one that comes first", net(4, [3]int{1, 2, 1}, [3]int{2, 3, w}, [3]int{0, 1, w}, [3]int{1, 3, w}, [3]int{0, 2, w}), 0, 3, 2 * w, 0b1},
		{"the cut has an arc that leads back into it", net(4, [3]int{0, 1, 9}, [3]int{1, 2, 2}, [3]int{2, 3, 9}, [3]int{2, 1, 9}, [3]int{2, 0, 9}), 0, 3, 2, 0b11},
		{"a flow of several rows", net(6, [3]int{0, 1, 16}, [3]int{0, 2, 13}, [3]int{1, 2, 10}, [3]int{2, 1, 4}, [3]int{1, 3, 12}, [3]int{3, 2, 9}, [3]int{2, 4, 14}, [3]int{4, 3, 7}, [3]int{3, 5, 20}, [3]int{4, 5, 4}), 0, 5, 23, 0b10111},
		{"the longest way", net(10, [3]int{9, 8, 9}, [3]int{8, 7, 8}, [3]int{7, 6, 7}, [3]int{6, 5, 6}, [3]int{5, 4, 5}, [3]int{4, 3, 6}, [3]int{3, 2, 7}, [3]int{2, 1, 8}, [3]int{1, 0, 9}), 9, 0, 5, 0b1111100000},
	}
}

// H2, H3: the chapter's example, and others that are worked out by hand.
func TestByHand(t *testing.T) {
	for _, c := range append(plainNets(), knottyNets()...) {
		expectAnswers(t, c.name, c.n, c.from, c.to, c.value, c.cut)
	}
}

// expectTrial holds both calls against trial of all cuts, and gives how many cuts there are of the least size.
// A flow can't have a greater value than a cut has size: so where one has just that, no flow has more.
func expectTrial(t *testing.T, n api.Net, from, to int) int {
	t.Helper()
	cut, size, count := cutByTrial(n, from, to)
	expectAnswers(t, "one of many", n, from, to, size, cut)
	return count
}

// digitsNet: each two nodes have an arc each way, whose Most is a digit of the number, in this base.
func digitsNet(nodes, base, number int) api.Net {
	n := api.Net{N: nodes}
	for from := range nodes {
		for to := range nodes {
			if from != to {
				n.Arcs = append(n.Arcs, api.Arc{From: from, To: to, Most: int64(number % base)})
				number /= base
			}
		}
	}
	return n
}

// H2, H3: all nets of up to four nodes, with an arc each way, of a few sizes, between each two nodes.
func TestAllSmall(t *testing.T) {
	for _, c := range []struct{ nodes, base, count int }{{2, 7, 49}, {3, 4, 4096}, {4, 2, 4096}} {
		for number := range c.count {
			n := digitsNet(c.nodes, c.base, number)
			for from := range c.nodes {
				for to := range c.nodes {
					if from != to {
						expectTrial(t, n, from, to)
					}
				}
			}
		}
	}
}

// spreadNet: so many nodes and arcs, each of which has a Most below most and a Fee of any kind.
func spreadNet(nodes, count int, most, seed uint) api.Net {
	n := api.Net{N: nodes}
	for i := range count {
		luck := spread(seed*64 + uint(i))
		from := int(luck % uint(nodes))
		to := (from + 1 + int(luck>>8%uint(nodes-1))) % nodes
		fee := int64(luck>>40%(2*api.MaxWeight+1)) - api.MaxWeight
		n.Arcs = append(n.Arcs, api.Arc{From: from, To: to, Most: int64(luck >> 16 % most), Fee: fee})
	}
	return n
}

// H2, H3: a spread of nets of up to ten nodes, sparse and full, narrow and wide, against trial.
func TestAgainstTrial(t *testing.T) {
	several, some := 0, 0
	for seed := range uint(4000) {
		luck := spread(seed + 77777)
		nodes := 2 + int(luck%9)
		count := int(luck >> 8 % (api.MaxArcs + 1))
		most := []uint{2, 3, 10, api.MaxWeight + 1}[luck>>16%4]
		n := spreadNet(nodes, count, most, seed)
		from := int(luck >> 24 % uint(nodes))
		to := (from + 1 + int(luck>>32%uint(nodes-1))) % nodes
		if _, size, _ := cutByTrial(n, from, to); size > 0 {
			some++
			if expectTrial(t, n, from, to) > 1 {
				several++
			}
		} else {
			expectTrial(t, n, from, to)
		}
	}
	if some < 1000 || several < 300 {
		t.Errorf("a poor spread: in %d something can go, in %d of them there are several cuts", some, several)
	}
}

// H2, H3: fees are looked at by Check alone, and the answers are the same each time.
func TestFeesAndAgain(t *testing.T) {
	for seed := range uint(200) {
		n := spreadNet(6, 20, 9, seed)
		plain := api.Net{N: n.N, Arcs: slices.Clone(n.Arcs)}
		for i := range plain.Arcs {
			plain.Arcs[i].Fee = 0
		}
		value, goes, _ := Most(n, 0, 5)
		cut, size, _ := Cut(n, 0, 5)
		if again, l, err := Most(plain, 0, 5); again != value || !slices.Equal(l, goes) || err != api.OK {
			t.Errorf("Most of %v: %d, %v, and without fees %d, %v, %d", n, value, goes, again, l, err)
		}
		if again, s, err := Cut(plain, 0, 5); again != cut || s != size || err != api.OK {
			t.Errorf("Cut of %v: %b, %d, and without fees %b, %d, %d", n, cut, size, again, s, err)
		}
	}
}

// Send takes more nodes and arcs than may be handed in to the other calls, and tells a flow of the greatest value.
func TestSendBeyondLimits(t *testing.T) {
	row := api.Net{N: 32}
	for node := range 31 {
		for i := range 3 {
			row.Arcs = append(row.Arcs, api.Arc{From: node, To: node + 1, Most: int64(node%5 + i)})
		}
	}
	if goes := Send(row, 0, 31); !isFlow(row, 0, 31, goes, 3) {
		t.Errorf("a row of 32 nodes: %v", goes)
	}
	several := 0
	for seed := range uint(100) {
		n := spreadNet(14, 60, 9, seed)
		_, size, _ := cutByTrial(n, 0, 13)
		if goes := Send(n, 0, 13); !isFlow(n, 0, 13, goes, size) {
			t.Errorf("Send of %v: %v, want a flow of %d", n, goes, size)
		}
		if size > 10 {
			several++
		}
	}
	if several < 20 {
		t.Errorf("a poor spread: only %d with more than 10", several)
	}
}

// Send tells what Most tells, where both take the net.
func TestSendAsMost(t *testing.T) {
	for _, c := range append(plainNets(), knottyNets()...) {
		_, goes, _ := Most(c.n, c.from, c.to)
		if got := Send(c.n, c.from, c.to); !slices.Equal(got, goes) {
			t.Errorf("%s: %v, and Most tells %v", c.name, got, goes)
		}
	}
}

// P3: neither the list that is handed in nor what lies behind its length is changed or read, nor is an answer kept.
func TestMemory(t *testing.T) {
	whole := append(arcs([3]int{0, 1, 5}, [3]int{1, 2, 3}), slices.Repeat([]api.Arc{{From: 0, To: 2, Most: 8}, {From: 77, To: 77, Most: -1}}, 20)...)
	before := slices.Clone(whole)
	n := api.Net{N: 3, Arcs: whole[:2]}
	for range 2 {
		if err := Check(n); err != api.OK {
			t.Errorf("Check: %d", err)
		}
		expectAnswers(t, "a piece of a list", n, 0, 2, 3, 0b11)
		_, goes, _ := Most(n, 0, 2)
		for i := range goes[:cap(goes)] {
			goes[:cap(goes)][i] = 99
		}
		if !slices.Equal(whole, before) {
			t.Errorf("the arcs became %v", whole)
		}
	}
}

// H2: the value is what goes out, less what comes in, also where a flow has something that goes in a ring.
func TestValue(t *testing.T) {
	f := &filled{Net: net(3, [3]int{0, 1, 9}, [3]int{1, 0, 4}, [3]int{0, 2, 5}, [3]int{1, 2, 9}), goes: []int64{7, 4, 5, 3}}
	for node, want := range []int64{8, 0, -8} {
		if got := f.value(node); got != want {
			t.Errorf("of %d: %d, want %d", node, got, want)
		}
	}
}

// Whoever goes through steps may stop at any of them.
func TestStopEarly(t *testing.T) {
	f := &filled{Net: net(3, [3]int{0, 1, 5}, [3]int{1, 2, 3}, [3]int{2, 0, 4}), goes: []int64{2, 3, 0}}
	want := []step{{0, 1, 0, 3, 1}, {1, 0, 0, 2, -1}, {2, 1, 1, 3, -1}, {2, 0, 2, 4, 1}}
	for count := range len(want) + 1 {
		var got []step
		for st := range f.steps {
			if len(got) == count {
				break
			}
			got = append(got, st)
		}
		if !slices.Equal(got, want[:count]) {
			t.Errorf("the first %d steps: %v, want %v", count, got, want[:count])
		}
	}
}
