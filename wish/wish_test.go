package wish

import (
	"math"
	"slices"
	"testing"

	"teamster/api"
)

// side: the wishes of some on one side, each a text of numbers below ten.
func side(texts ...string) [][]int {
	lists := make([][]int, len(texts))
	for i, text := range texts {
		for _, digit := range []byte(text) {
			lists[i] = append(lists[i], int(digit-'0'))
		}
	}
	return lists
}

func wishes(left, right [][]int) api.Wishes {
	return api.Wishes{Left: left, Right: right}
}

// alike: n on a side who all wish for the same.
func alike(n int, text string) [][]int {
	var texts []string
	for range n {
		texts = append(texts, text)
	}
	return side(texts...)
}

// mixed: a power of two on a side; whom each one wishes for next is told by its own number and the place, the right with all turned round.
func mixed(n int) api.Wishes {
	w := api.Wishes{Left: make([][]int, n), Right: make([][]int, n)}
	for one := range n {
		for place := range n {
			w.Left[one] = append(w.Left[one], one^place)
			w.Right[one] = append(w.Right[one], one^place^(n-1))
		}
	}
	return w
}

// twos: so many times two on a side, who can be paired in two ways each.
func twos(times int) api.Wishes {
	var w api.Wishes
	for i := range times {
		a, b := 2*i, 2*i+1
		w.Left = append(w.Left, []int{a, b}, []int{b, a})
		w.Right = append(w.Right, []int{b, a}, []int{a, b})
	}
	return w
}

// turned: the same with left and right turned round.
func turned(w api.Wishes) api.Wishes {
	return api.Wishes{Left: w.Right, Right: w.Left}
}

// spread: a number that looks as if it came from nowhere, the same each time.
func spread(seed uint) uint {
	seed = (seed + 1) * 0x9E3779B97F4A7C15
	seed = (seed ^ seed>>30) * 0xBF58476D1CE4E5B9
	seed = (seed ^ seed>>27) * 0x94D049BB133111EB
	return seed ^ seed>>31
}

// spreadSide: lists of n each, some of them cut short: each number is left out in one of so many cases, in none if it is 0.
func spreadSide(n int, leftOut, seed uint) [][]int {
	lists := make([][]int, n)
	for one := range lists {
		for other := range n {
			luck := spread(seed*1024 + uint(one*16+other))
			if leftOut > 0 && luck>>20%leftOut == 0 {
				continue
			}
			lists[one] = slices.Insert(lists[one], int(luck%uint(len(lists[one])+1)), other)
		}
	}
	return lists
}

func spreadWishes(n int, leftOut, seed uint) api.Wishes {
	return wishes(spreadSide(n, leftOut, 2*seed), spreadSide(n, leftOut, 2*seed+1))
}

// expect holds what Pair and All tell against what they are to tell: all that hold, and that which is best for the left.
func expect(t *testing.T, name string, w api.Wishes, best []int, all [][]int) {
	t.Helper()
	if err := Check(w); err != api.OK {
		t.Errorf("Check of %s, %v: %d", name, w, err)
	}
	if got, err := Pair(w); err != api.OK || !slices.Equal(got, best) {
		t.Errorf("Pair of %s, %v: %v, %d, want %v", name, w, got, err, best)
	}
	if got, err := All(w); err != api.OK || !slices.EqualFunc(got, all, slices.Equal[[]int]) {
		t.Errorf("All of %s, %v: %v, %d, want %v", name, w, got, err, all)
	}
}

// G3: the chapter's example, and others that are worked out by hand; the first pairing named is the best for the left.
func TestPairAndAllByHand(t *testing.T) {
	for _, c := range []struct {
		name string
		w    api.Wishes
		best []int
		all  [][]int
	}{
		{"the chapter's example", wishes(alike(2, "01"), alike(2, "01")), []int{0, 1}, [][]int{{0, 1}}},
		{"nobody on either side", api.Wishes{}, []int{}, [][]int{{}}},
		{"nobody on either side, empty lists", wishes([][]int{}, [][]int{}), []int{}, [][]int{{}}},
		{"one who wishes for nobody", wishes(side(""), side("")), []int{-1}, [][]int{{-1}}},
		{"one wish, by the left alone", wishes(side("0"), side("")), []int{-1}, [][]int{{-1}}},
		{"one wish, by the right alone", wishes(side(""), side("0")), []int{-1}, [][]int{{-1}}},
		{"one wish by both", wishes(side("0"), side("0")), []int{0}, [][]int{{0}}},
		{"empty lists", wishes(alike(8, ""), alike(8, "")), slices.Repeat([]int{-1}, 8), [][]int{slices.Repeat([]int{-1}, 8)}},
		{"all of the left wish, nobody of the right", wishes(alike(3, "012"), alike(3, "")), []int{-1, -1, -1}, [][]int{{-1, -1, -1}}},
		{"all wish for the greater number more", wishes(alike(3, "210"), alike(3, "210")), []int{0, 1, 2}, [][]int{{0, 1, 2}}},
		{"the right tells who gets the best", wishes(alike(2, "01"), alike(2, "10")), []int{1, 0}, [][]int{{1, 0}}},
		{"two ways", twos(1), []int{0, 1}, [][]int{{0, 1}, {1, 0}}},
		{"two ways, the best for the left last", wishes(side("10", "01"), side("01", "10")), []int{1, 0}, [][]int{{0, 1}, {1, 0}}},
		{"all get the first wish", wishes(side("20", "01", "12"), side("01", "12", "20")), []int{2, 0, 1}, [][]int{{0, 1, 2}, {2, 0, 1}}},
		{"three ways, each one further", wishes(side("012", "120", "201"), side("120", "201", "012")), []int{0, 1, 2}, [][]int{{0, 1, 2}, {1, 2, 0}, {2, 0, 1}}},
		{"two for one: one is left over", wishes(side("0", "0"), side("10", "")), []int{-1, 0}, [][]int{{-1, 0}}},
		{"two for one, the other one who is wished for doesn't wish", wishes(side("01", "01"), side("10", "")), []int{-1, 0}, [][]int{{-1, 0}}},
		{"fewer pairs than there might be", wishes(side("01", "0"), side("01", "0")), []int{0, -1}, [][]int{{0, -1}}},
		{"a wish first that is none of the other's", wishes(side("10", ""), side("0", "")), []int{0, -1}, [][]int{{0, -1}}},
		{"one who is lost gets what it did not want so much", wishes(side("01", "0"), side("10", "0")), []int{1, 0}, [][]int{{1, 0}}},
		{"all lose what they had, one after the other", wishes(side("01", "12", "23", "0"), side("30", "01", "12", "2")), []int{1, 2, 3, 0}, [][]int{{1, 2, 3, 0}}},
		{"the last one gets nobody as all others move", wishes(side("01", "12", "2", "0"), side("30", "01", "12", "")), []int{1, 2, -1, 0}, [][]int{{1, 2, -1, 0}}},
		{"some left over, two ways for the others", wishes(side("1", "02", "20"), side("21", "2", "12")), []int{-1, 0, 2}, [][]int{{-1, 0, 2}, {-1, 2, 0}}},
		{"a middle one is left over", wishes(side("02", "0", "20"), side("201", "", "02")), []int{0, -1, 2}, [][]int{{0, -1, 2}, {2, -1, 0}}},
		{"twice two ways", twos(2), []int{0, 1, 2, 3}, [][]int{{0, 1, 2, 3}, {0, 1, 3, 2}, {1, 0, 2, 3}, {1, 0, 3, 2}}},
		{"the greatest numbers", wishes(side("7", "", "", "", "", "", "", "7"), side("", "", "", "", "", "", "", "70")), []int{-1, -1, -1, -1, -1, -1, -1, 7}, [][]int{{-1, -1, -1, -1, -1, -1, -1, 7}}},
		{"eight alike", wishes(alike(8, "76543210"), alike(8, "01234567")), []int{7, 6, 5, 4, 3, 2, 1, 0}, [][]int{{7, 6, 5, 4, 3, 2, 1, 0}}},
	} {
		expect(t, c.name, c.w, c.best, c.all)
	}
}

// G2: the chapter's example, and others that are worked out by hand.
func TestHoldsByHand(t *testing.T) {
	three := wishes(side("012", "120", "201"), side("120", "201", "012"))
	part := wishes(side("02", "0", "20"), side("201", "", "02"))
	for _, c := range []struct {
		name string
		w    api.Wishes
		l    []int
		want bool
	}{
		{"the chapter's example", wishes(alike(2, "01"), alike(2, "01")), []int{0, 1}, true},
		{"both 0 would rather have each other", wishes(alike(2, "01"), alike(2, "01")), []int{1, 0}, false},
		{"nobody on either side", api.Wishes{}, nil, true},
		{"nobody on either side, an empty list", api.Wishes{}, []int{}, true},
		{"empty lists, nobody had", wishes(alike(8, ""), alike(8, "")), slices.Repeat([]int{-1}, 8), true},
		{"empty lists, one had", wishes(alike(2, ""), alike(2, "")), []int{-1, 0}, false},
		{"both wish, both have none", wishes(side("0"), side("0")), []int{-1}, false},
		{"both wish, and have", wishes(side("0"), side("0")), []int{0}, true},
		{"the left alone wishes, and has", wishes(side("0"), side("")), []int{0}, false},
		{"the left alone wishes, and has none", wishes(side("0"), side("")), []int{-1}, true},
		{"the right alone wishes, and has", wishes(side(""), side("0")), []int{0}, false},
		{"the right alone wishes, and has none", wishes(side(""), side("0")), []int{-1}, true},
		{"best for the left", three, []int{0, 1, 2}, true},
		{"between", three, []int{1, 2, 0}, true},
		{"best for the right", three, []int{2, 0, 1}, true},
		{"one has the best, two have not", three, []int{0, 2, 1}, false},
		{"one has the last, one the best", three, []int{2, 1, 0}, false},
		{"all have, but one less than can be", three, []int{0, 1, -1}, false},
		{"nobody has", three, []int{-1, -1, -1}, false},
		{"some are left over", part, []int{0, -1, 2}, true},
		{"some are left over, the other way", part, []int{2, -1, 0}, true},
		{"one more wishes, but not the right", part, []int{0, 1, 2}, false},
		{"another one is left over", part, []int{2, 0, -1}, false},
		{"one left over who would rather, the right too", part, []int{-1, 0, 2}, false},
		{"one has none, the right one it wishes less for", wishes(side("0", "0"), side("01", "")), []int{-1, 0}, false},
		{"one has none, the right one it wishes more for", wishes(side("0", "0"), side("10", "")), []int{-1, 0}, true},
		{"the right has none, the left one it wishes less for", wishes(side("01", ""), side("0", "0")), []int{1, -1}, false},
		{"the right has none, the left one it wishes more for", wishes(side("10", ""), side("0", "0")), []int{1, -1}, true},
		{"the left would rather, but is no wish", wishes(side("01", "1"), side("1", "0")), []int{1, -1}, true},
		{"the right would rather, but is no wish", wishes(side("0", "1"), side("10", "")), []int{0, -1}, true},
		{"the two greatest numbers would rather", wishes(alike(8, "76543210"), alike(8, "76543210")), []int{0, 1, 2, 3, 4, 5, 7, 6}, false},
		{"each its own", wishes(alike(8, "76543210"), alike(8, "76543210")), []int{0, 1, 2, 3, 4, 5, 6, 7}, true},
	} {
		if got, err := Holds(c.w, c.l); err != api.OK || got != c.want {
			t.Errorf("Holds of %s, %v %v: %v, %d, want %v", c.name, c.w, c.l, got, err, c.want)
		}
	}
}

// G1, P2: each call tells first what is wrong with the wishes, and nothing else with it.
func TestWrongWishes(t *testing.T) {
	good := side("01", "10")
	for _, c := range []struct {
		name string
		w    api.Wishes
		want api.Errno
	}{
		{"nine on both sides", wishes(alike(9, "01"), alike(9, "01")), api.ErrLarge},
		{"nine on both sides, empty lists", wishes(alike(9, ""), alike(9, "")), api.ErrLarge},
		{"nine on the left", wishes(alike(9, "01"), alike(8, "01")), api.ErrLarge},
		{"nine on the right", wishes(alike(8, "01"), alike(9, "01")), api.ErrLarge},
		{"nine on the right, nobody on the left", wishes(nil, alike(9, "")), api.ErrLarge},
		{"forty on the left", wishes(alike(40, "11"), nil), api.ErrLarge},
		{"too many ahead of somebody twice", wishes(alike(9, "00"), alike(9, "99")), api.ErrLarge},
		{"one more on the left", wishes(alike(3, "01"), good), api.ErrForm},
		{"one more on the right", wishes(good, alike(3, "01")), api.ErrForm},
		{"nobody on the left", wishes(nil, good), api.ErrForm},
		{"nobody on the right", wishes(alike(8, ""), nil), api.ErrForm},
		{"not as many ahead of somebody twice", wishes(side("00"), good), api.ErrForm},
		{"the left wishes for nobody's number", wishes(side("01", "12"), good), api.ErrArg},
		{"the right wishes for nobody's number", wishes(good, side("01", "2")), api.ErrArg},
		{"the left wishes for -1", wishes([][]int{{0, -1}, {}}, good), api.ErrArg},
		{"the right wishes for -1", wishes(good, [][]int{{}, {-1}}), api.ErrArg},
		{"8 of eight", wishes(append(alike(7, "01234567"), []int{8}), alike(8, "")), api.ErrArg},
		{"numbers far above", wishes([][]int{{math.MaxInt}, {}}, good), api.ErrArg},
		{"numbers far below", wishes(good, [][]int{{}, {math.MinInt}}), api.ErrArg},
		{"32, as many as a word has bits", wishes(good, [][]int{{}, {32}}), api.ErrArg},
		{"64, as many as a word has bits", wishes([][]int{{}, {64}}, good), api.ErrArg},
		{"the left wishes for one twice", wishes(side("00", "10"), good), api.ErrArg},
		{"the right wishes for one twice", wishes(good, side("01", "11")), api.ErrArg},
		{"one twice, not next to each other", wishes(side("010", "10"), good), api.ErrArg},
		{"all twice", wishes(good, side("01", "0101")), api.ErrArg},
		{"a long list", wishes([][]int{make([]int, 1000), {}}, good), api.ErrArg},
	} {
		if err := Check(c.w); err != c.want {
			t.Errorf("Check of %s: %d, want %d", c.name, err, c.want)
		}
		if got, err := Pair(c.w); err != c.want || len(got) != 0 {
			t.Errorf("Pair of %s: %v, %d, want %d", c.name, got, err, c.want)
		}
		if got, err := All(c.w); err != c.want || len(got) != 0 {
			t.Errorf("All of %s: %v, %d, want %d", c.name, got, err, c.want)
		}
		for _, l := range [][]int{nil, {0, 1}, {1, 1}, {9}, slices.Repeat([]int{-1}, len(c.w.Left))} {
			if got, err := Holds(c.w, l); err != c.want || got {
				t.Errorf("Holds of %s, %v: %v, %d, want %d", c.name, l, got, err, c.want)
			}
		}
	}
}

// G2: lists that are no pairing.
func TestNoPairing(t *testing.T) {
	good := wishes(alike(3, "012"), alike(3, "012"))
	for _, c := range []struct {
		name string
		w    api.Wishes
		l    []int
		want api.Errno
	}{
		{"no list", good, nil, api.ErrForm},
		{"one too few", good, []int{0, 1}, api.ErrForm},
		{"one too many", good, []int{0, 1, 2, -1}, api.ErrForm},
		{"one where there is nobody", api.Wishes{}, []int{-1}, api.ErrForm},
		{"too few ahead of nobody's number", good, []int{3, -2}, api.ErrForm},
		{"too many ahead of somebody twice", good, []int{0, 0, 0, 0}, api.ErrForm},
		{"a number above", good, []int{0, 1, 3}, api.ErrArg},
		{"a number below", good, []int{0, -2, 2}, api.ErrArg},
		{"far above", good, []int{math.MaxInt, 1, 2}, api.ErrArg},
		{"far below", good, []int{0, 1, math.MinInt}, api.ErrArg},
		{"32, as many as a word has bits", good, []int{32, 1, 2}, api.ErrArg},
		{"somebody twice", good, []int{0, 1, 0}, api.ErrArg},
		{"somebody twice, one none", good, []int{2, -1, 2}, api.ErrArg},
		{"somebody twice whom nobody wishes for", wishes(alike(2, ""), alike(2, "")), []int{1, 1}, api.ErrArg},
		{"8 of eight", wishes(alike(8, ""), alike(8, "")), []int{0, 1, 2, 3, 4, 5, 6, 8}, api.ErrArg},
		{"all have the same one", wishes(alike(8, "7"), alike(8, "7")), slices.Repeat([]int{7}, 8), api.ErrArg},
		{"nobody twice", wishes(alike(2, ""), alike(2, "")), []int{-1, -1}, api.OK},
	} {
		if got, err := Holds(c.w, c.l); err != c.want || got != (c.want == api.OK) {
			t.Errorf("Holds of %s, %v: %v, %d, want %d", c.name, c.l, got, err, c.want)
		}
	}
}

// rather says by the words of the chapter whether one wishes for another, and has none or one that it wishes less for.
func rather(list []int, other, has int) bool {
	wished, had := slices.Index(list, other), slices.Index(list, has)
	return wished >= 0 && (has < 0 || had > wished)
}

// holdsByTrial asks of each two, one on each side.
func holdsByTrial(w api.Wishes, l []int) bool {
	for left, right := range l {
		if right >= 0 && !(slices.Contains(w.Left[left], right) && slices.Contains(w.Right[right], left)) {
			return false
		}
	}
	for left := range l {
		for right := range l {
			if rather(w.Left[left], right, l[left]) && rather(w.Right[right], left, slices.Index(l, right)) {
				return false
			}
		}
	}
	return true
}

// pairings gives all pairings of n on each side, in their order.
func pairings(n int) [][]int {
	var all [][]int
	l := make([]int, 0, n)
	var lay func()
	lay = func() {
		if len(l) == n {
			all = append(all, slices.Clone(l))
			return
		}
		for right := -1; right < n; right++ {
			if right >= 0 && slices.Contains(l, right) {
				continue
			}
			l = append(l, right)
			lay()
			l = l[:len(l)-1]
		}
	}
	lay()
	return all
}

// bestOf gives for each one on the left who it wishes most for of those that it has in any of the pairings.
func bestOf(w api.Wishes, all [][]int) []int {
	best := slices.Clone(all[0])
	for left := range best {
		for _, l := range all {
			if rather(w.Left[left], l[left], best[left]) {
				best[left] = l[left]
			}
		}
	}
	return best
}

// met counts what a spread had: pairings that leave none and some over, and that hold alone and with others.
type met struct{ none, some, alone, others, both int }

func (m *met) add(all [][]int) {
	left := slices.Contains(all[0], -1)
	switch {
	case left && len(all) > 1:
		m.both++
	case left:
		m.some++
	default:
		m.none++
	}
	if len(all) > 1 {
		m.others++
	} else {
		m.alone++
	}
}

func (m met) expect(t *testing.T, least int) {
	t.Helper()
	if min(m.none, m.some, m.alone, m.others, m.both) < least {
		t.Errorf("a poor spread: %+v", m)
	}
}

// expectTrial holds all that is told of some wishes against trial of all pairings, and gives those that hold.
func expectTrial(t *testing.T, w api.Wishes, tried [][]int) [][]int {
	t.Helper()
	var all [][]int
	for _, l := range tried {
		want := holdsByTrial(w, l)
		if got, err := Holds(w, l); err != api.OK || got != want {
			t.Errorf("Holds of %v, %v: %v, %d, want %v", w, l, got, err, want)
		}
		if want {
			all = append(all, l)
		}
	}
	expect(t, "one of many", w, bestOf(w, all), all)
	return all
}

// orders gives all lists of some of n, none twice.
func orders(n int, head ...int) [][]int {
	all := [][]int{head}
	for one := range n {
		if !slices.Contains(head, one) {
			all = append(all, orders(n, append(slices.Clone(head), one)...)...)
		}
	}
	return all
}

// sidesOf gives all sides of n, of whom each has one of these lists.
func sidesOf(n int, lists [][]int) [][][]int {
	all := [][][]int{{}}
	for range n {
		var longer [][][]int
		for _, head := range all {
			for _, list := range lists {
				longer = append(longer, append(slices.Clone(head), list))
			}
		}
		all = longer
	}
	return all
}

// G2, G3: all wishes of up to two on a side against trial.
func TestAllSmall(t *testing.T) {
	for n := range 3 {
		tried := pairings(n)
		sides := sidesOf(n, orders(n))
		for _, left := range sides {
			for _, right := range sides {
				expectTrial(t, wishes(left, right), tried)
			}
		}
	}
}

// G2, G3: all wishes of three on a side against trial where each wishes for all.
func TestAllFullLists(t *testing.T) {
	full := slices.DeleteFunc(orders(3), func(list []int) bool { return len(list) < 3 })
	sides := sidesOf(3, full)
	tried := pairings(3)
	for _, left := range sides {
		for _, right := range sides {
			expectTrial(t, wishes(left, right), tried)
		}
	}
}

// G2, G3: a spread of wishes of three to five on a side against trial.
func TestAgainstTrial(t *testing.T) {
	var m met
	for n := 3; n <= 5; n++ {
		tried := pairings(n)
		for seed := range uint(600) {
			m.add(expectTrial(t, spreadWishes(n, seed%6, seed), tried))
		}
	}
	m.expect(t, 15)
}

// G2, G3: wishes of six to eight on a side against trial of all pairings.
func TestLargeAgainstTrial(t *testing.T) {
	var m met
	for n := 6; n <= 8; n++ {
		tried := pairings(n)
		for seed := range uint(12) >> (2 * (n - 6)) {
			m.add(expectTrial(t, spreadWishes(n, seed*4, seed+uint(n)), tried))
		}
	}
	if m.none == 0 || m.some+m.both == 0 || m.others == 0 {
		t.Errorf("a poor spread: %+v", m)
	}
}

// G3: of six to eight on a side all pairings that are told hold, in their order, and turned round they are the same; that which is best for the left is among them.
func TestLargeHold(t *testing.T) {
	var m met
	for seed := range uint(3000) {
		w := spreadWishes(6+int(seed%3), seed/3%7, seed)
		all := expectAll(t, "one of many", w)
		m.add(all)
		if seed%10 == 0 {
			expectTurned(t, w, all)
		}
	}
	m.expect(t, 100)
}

// expectAll holds what All tells against Holds and Pair, and gives it.
func expectAll(t *testing.T, name string, w api.Wishes) [][]int {
	t.Helper()
	all, err := All(w)
	if err != api.OK || len(all) == 0 {
		t.Fatalf("All of %s, %v: %v, %d", name, w, all, err)
	}
	for i, l := range all {
		if !holdsByTrial(w, l) || i > 0 && slices.Compare(all[i-1], l) >= 0 {
			t.Errorf("All of %s, %v: %v at place %d", name, w, l, i)
		}
	}
	best := bestOf(w, all)
	if got, err := Pair(w); err != api.OK || !slices.Equal(got, best) {
		t.Errorf("Pair of %s, %v: %v, %d, want %v", name, w, got, err, best)
	}
	return all
}

// expectTurned holds the pairings that hold against those with both sides turned round: they are the same.
func expectTurned(t *testing.T, w api.Wishes, all [][]int) {
	t.Helper()
	var want [][]int
	for _, l := range all {
		other := make([]int, len(l))
		for right := range other {
			other[right] = slices.Index(l, right)
		}
		want = append(want, other)
	}
	slices.SortFunc(want, slices.Compare[[]int])
	if got, err := All(turned(w)); err != api.OK || !slices.EqualFunc(got, want, slices.Equal[[]int]) {
		t.Errorf("All of %v: %v, %d, want %v", turned(w), got, err, want)
	}
}

// G3: as many pairings as there are known to be.
func TestMany(t *testing.T) {
	for _, c := range []struct {
		name string
		w    api.Wishes
		want int
	}{
		{"two, mixed", mixed(2), 2},
		{"four, mixed", mixed(4), 10},
		{"eight, mixed", mixed(8), 268},
		{"three times two", twos(3), 8},
		{"four times two", twos(4), 16},
	} {
		all := expectAll(t, c.name, c.w)
		if len(all) != c.want {
			t.Errorf("All of %s: %d pairings, want %d", c.name, len(all), c.want)
		}
		expectTurned(t, c.w, all)
		own := make([]int, len(c.w.Left))
		for one := range own {
			own[one] = one
		}
		if got, err := Pair(c.w); err != api.OK || !slices.Equal(got, own) {
			t.Errorf("Pair of %s: %v, %d, want %v", c.name, got, err, own)
		}
	}
}

// hidden gives lists behind each of which there lies more, both within and behind the outer one.
func hidden(lists [][]int) [][]int {
	var more [][]int
	for _, list := range lists {
		long := append(slices.Clone(list), 77, -5)
		more = append(more, long[:len(list)])
	}
	more = append(more, []int{99})
	return more[:len(lists)]
}

// whole gives the lists with all that lies behind them.
func whole(lists [][]int) [][]int {
	var all [][]int
	for _, list := range lists[:len(lists)+1] {
		all = append(all, slices.Clone(list[:cap(list)]))
	}
	return all
}

// P3: neither the lists that are handed in nor what lies behind their lengths is changed or read, no answer is kept, and no two lists of one share any.
func TestMemory(t *testing.T) {
	three := wishes(side("012", "120", "201"), side("120", "201", "012"))
	w := wishes(hidden(three.Left), hidden(three.Right))
	long := []int{1, 2, 0, -9}
	left, right := whole(w.Left), whole(w.Right)
	for range 2 {
		expect(t, "three ways", w, []int{0, 1, 2}, [][]int{{0, 1, 2}, {1, 2, 0}, {2, 0, 1}})
		if got, err := Holds(w, long[:3]); err != api.OK || !got {
			t.Errorf("Holds: %v, %d", got, err)
		}
		best, _ := Pair(w)
		all, _ := All(w)
		for i := range best {
			best[i] = 99
		}
		for i, l := range all {
			for place := range l[:cap(l)] {
				l[:cap(l)][place] = 100 + i
			}
		}
		for i, l := range all {
			if !slices.Equal(l, slices.Repeat([]int{100 + i}, 3)) {
				t.Errorf("list %d shares with another one: %v", i, l)
			}
		}
	}
	if !slices.EqualFunc(whole(w.Left), left, slices.Equal[[]int]) || !slices.EqualFunc(whole(w.Right), right, slices.Equal[[]int]) {
		t.Errorf("the wishes became %v, %v", whole(w.Left), whole(w.Right))
	}
	if !slices.Equal(long, []int{1, 2, 0, -9}) {
		t.Errorf("the pairing became %v", long)
	}
}
