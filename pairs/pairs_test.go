package pairs

import (
	"math"
	"math/bits"
	"slices"
	"testing"

	"teamster/api"
)

// words: a list of words, written out.
func words(list ...uint32) []uint32 {
	return list
}

// spread: a number that looks as if it came from nowhere, the same each time.
func spread(seed uint) uint {
	seed = (seed + 1) * 0x9E3779B97F4A7C15
	seed = (seed ^ seed>>30) * 0xBF58476D1CE4E5B9
	seed = (seed ^ seed>>27) * 0x94D049BB133111EB
	return seed ^ seed>>31
}

// expectMost holds the first pairing with the most pairs against what it is to be.
func expectMost(t *testing.T, name string, near []uint32, want []int) {
	t.Helper()
	if got, err := Most(near); err != api.OK || !slices.Equal(got, want) {
		t.Errorf("Most of %s, %b: %v, %d, want %v", name, near, got, err, want)
	}
}

// expectCover holds the cover against what it is to be.
func expectCover(t *testing.T, name string, near []uint32, left, right uint32) {
	t.Helper()
	if a, b, err := Cover(near); err != api.OK || a != left || b != right {
		t.Errorf("Cover of %s, %b: %b, %b, %d, want %b, %b", name, near, a, b, err, left, right)
	}
}

// expectShort holds the set that has too few against what it is to be.
func expectShort(t *testing.T, name string, near []uint32, want uint32) {
	t.Helper()
	if got, err := Short(near); err != api.OK || got != want {
		t.Errorf("Short of %s, %b: %b, %d, want %b", name, near, got, err, want)
	}
}

// E2: the chapter's example, and others that are worked out by hand.
func TestMostByHand(t *testing.T) {
	for _, c := range []struct {
		name string
		near []uint32
		want []int
	}{
		{"the chapter's example", words(1, 1, 2), []int{0, -1, 1}},
		{"nobody on the left", nil, []int{}},
		{"nobody on the left, an empty list", words(), []int{}},
		{"a word without bits", words(0), []int{-1}},
		{"words without bits", make([]uint32, api.MaxSide), []int{-1, -1, -1, -1, -1, -1, -1, -1}},
		{"a word without bits between others", words(2, 0, 1), []int{1, -1, 0}},
		{"the first and the last on the right", words(128, 1), []int{7, 0}},
		{"all with all", slices.Repeat(words(255), 8), []int{0, 1, 2, 3, 4, 5, 6, 7}},
		{"eight want one", slices.Repeat(words(128), 8), []int{7, -1, -1, -1, -1, -1, -1, -1}},
		{"eight want two", slices.Repeat(words(0x24), 8), []int{2, 5, -1, -1, -1, -1, -1, -1}},
		{"one has all to choose from", words(255), []int{0}},
		{"a pair ahead of none", words(1, 1), []int{0, -1}},
		{"the most, not the lesser one", words(3, 1), []int{1, 0}},
		{"the lesser one, though a later one has none for it", words(3, 1, 2), []int{0, -1, 1}},
		{"a pair, though a later one has none for it", words(4, 2, 6), []int{2, 1, -1}},
		{"the first one gives way to those behind", words(7, 1, 2), []int{2, 0, 1}},
		{"all move on by one", words(0b11, 0b110, 0b1100, 0b11000, 0b110000, 0b1100000, 0b11000000, 0b1), []int{1, 2, 3, 4, 5, 6, 7, 0}},
		{"nobody moves on", words(0b11, 0b110, 0b1100, 0b11000, 0b110000, 0b1100000, 0b11000000, 0b10000000), []int{0, 1, 2, 3, 4, 5, 6, 7}},
		{"one of each, turned round", words(128, 64, 32, 16, 8, 4, 2, 1), []int{7, 6, 5, 4, 3, 2, 1, 0}},
	} {
		expectMost(t, c.name, c.near, c.want)
	}
}

// E3: the chapter's example, and others that are worked out by hand.
func TestCoverByHand(t *testing.T) {
	for _, c := range []struct {
		name        string
		near        []uint32
		left, right uint32
	}{
		{"the chapter's example", words(1, 1, 2), 0, 3},
		{"nobody on the left", nil, 0, 0},
		{"nobody on the left, an empty list", words(), 0, 0},
		{"a word without bits", words(0), 0, 0},
		{"words without bits", make([]uint32, api.MaxSide), 0, 0},
		{"a word without bits between others", words(2, 0, 1), 0, 3},
		{"the last on the left", words(0, 0, 0, 0, 0, 0, 0, 255), 128, 0},
		{"the last on the right", slices.Repeat(words(128), 8), 0, 128},
		{"all with all", slices.Repeat(words(255), 8), 0, 255},
		{"one of the left or one of the right", words(16), 0, 16},
		{"one of the left for two of the right", words(3), 1, 0},
		{"two of the left or two of the right", words(3, 3), 0, 3},
		{"several, one of each side, the greater of the left must be in", words(1, 7), 2, 1},
		{"several, one of each side, the lesser of the left must be in", words(7, 1), 1, 1},
		{"several, nobody of the left", words(6, 6, 8), 0, 14},
		{"two of the left, one of the right", words(1, 1, 14, 28), 12, 1},
		{"all of the left", words(6, 24, 96), 7, 0},
	} {
		expectCover(t, c.name, c.near, c.left, c.right)
	}
}

// E3: the chapter's example, and others that are worked out by hand.
func TestShortByHand(t *testing.T) {
	for _, c := range []struct {
		name string
		near []uint32
		want uint32
	}{
		{"the chapter's example", words(1, 1, 2), 3},
		{"nobody on the left", nil, 0},
		{"nobody on the left, an empty list", words(), 0},
		{"the set of nobody is as good as that of the one", words(1), 0},
		{"the set of nobody is as good as that of all", words(1, 2, 4, 8, 16, 32, 64, 128), 0},
		{"no set has more members", slices.Repeat(words(255), 8), 0},
		{"a word without bits", words(0), 1},
		{"words without bits", make([]uint32, api.MaxSide), 255},
		{"a word without bits between others", words(2, 0, 1), 2},
		{"the last has no bits", words(255, 255, 255, 255, 255, 255, 255, 0), 128},
		{"eight want one", slices.Repeat(words(128), 8), 255},
		{"three want two", words(1, 6, 6, 6), 14},
		{"one more of each two, all four", words(1, 1, 4, 4), 15},
		{"none that adds nothing", words(2, 1, 1), 6},
		{"one more and two more", words(1, 1, 8, 8, 8), 31},
		{"two want one, and one has no bits", words(16, 16, 0, 7), 7},
	} {
		expectShort(t, c.name, c.near, c.want)
	}
}

// E1, P2: each call tells what is wrong with the words, and nothing else with it.
func TestWrongWords(t *testing.T) {
	for _, c := range []struct {
		name string
		near []uint32
		want api.Errno
	}{
		{"nine words", make([]uint32, api.MaxSide+1), api.ErrLarge},
		{"nine words with bits", slices.Repeat(words(255), 9), api.ErrLarge},
		{"nine words, a bit from MaxSide on", words(256, 0, 0, 0, 0, 0, 0, 0, 0), api.ErrLarge},
		{"very many words", make([]uint32, 100000), api.ErrLarge},
		{"33 words, all bits", slices.Repeat(words(math.MaxUint32), 33), api.ErrLarge},
		{"the bit MaxSide", words(1 << api.MaxSide), api.ErrArg},
		{"the bit MaxSide among others", words(3, 1<<api.MaxSide|1, 2), api.ErrArg},
		{"the bit 9", words(1<<9, 1), api.ErrArg},
		{"the bit 16", words(1 << 16), api.ErrArg},
		{"the last bit", words(1, 1<<31), api.ErrArg},
		{"all bits", words(math.MaxUint32), api.ErrArg},
		{"the last one of eight", words(1, 2, 4, 8, 16, 32, 64, 384), api.ErrArg},
		{"eight of them", slices.Repeat(words(256), 8), api.ErrArg},
	} {
		if got, err := Most(c.near); err != c.want || len(got) != 0 {
			t.Errorf("Most of %s: %v, %d, want %d", c.name, got, err, c.want)
		}
		if a, b, err := Cover(c.near); err != c.want || a != 0 || b != 0 {
			t.Errorf("Cover of %s: %b, %b, %d, want %d", c.name, a, b, err, c.want)
		}
		if got, err := Short(c.near); err != c.want || got != 0 {
			t.Errorf("Short of %s: %b, %d, want %d", c.name, got, err, c.want)
		}
	}
}

// may says whether one on the left and one on the right may be paired.
func may(near []uint32, left, right int) bool {
	return near[left]>>right&1 == 1
}

// trial goes through pairings in the order in which one is ahead of another, and keeps the first one that has more pairs than all ahead of it.
type trial struct {
	near    []uint32
	pairing []int
	best    []int
	pairs   int
}

func (tr *trial) goOn(used uint32, pairs int) {
	left := len(tr.pairing)
	if left == len(tr.near) {
		if tr.best == nil || pairs > tr.pairs {
			tr.best, tr.pairs = append([]int{}, tr.pairing...), pairs
		}
		return
	}
	for right := range api.MaxSide {
		if may(tr.near, left, right) && used>>right&1 == 0 {
			tr.pairing = append(tr.pairing, right)
			tr.goOn(used|1<<right, pairs+1)
			tr.pairing = tr.pairing[:left]
		}
	}
	tr.pairing = append(tr.pairing, -1)
	tr.goOn(used, pairs)
	tr.pairing = tr.pairing[:left]
}

// mostByTrial gives the first pairing with the most pairs, and how many they are.
func mostByTrial(near []uint32) ([]int, int) {
	tr := trial{near: near}
	tr.goOn(0, 0)
	return tr.best, tr.pairs
}

// covers says whether of each two that may be paired one is in these sets.
func covers(near []uint32, left, right uint32) bool {
	for a := range near {
		for b := range api.MaxSide {
			if may(near, a, b) && left>>a&1 == 0 && right>>b&1 == 0 {
				return false
			}
		}
	}
	return true
}

// coverByTrial tries all words of the left with all words of the right.
func coverByTrial(near []uint32) (bestLeft, bestRight uint32) {
	least := 2 * api.MaxSide
	for left := range uint32(1) << len(near) {
		for right := range uint32(1) << api.MaxSide {
			count := bits.OnesCount32(left) + bits.OnesCount32(right)
			if count < least && covers(near, left, right) {
				least, bestLeft, bestRight = count, left, right
			}
		}
	}
	return bestLeft, bestRight
}

// shortByTrial tries all words of the left, and gives besides the best one how many more members it has.
func shortByTrial(near []uint32) (best uint32, most int) {
	most = -1
	for set := range uint32(1) << len(near) {
		more := bits.OnesCount32(set)
		for right := range api.MaxSide {
			if slices.ContainsFunc(membersOf(set), func(left int) bool { return may(near, left, right) }) {
				more--
			}
		}
		if more > most {
			best, most = set, more
		}
	}
	return best, most
}

func membersOf(set uint32) []int {
	var members []int
	for i := range 32 {
		if set>>i&1 == 1 {
			members = append(members, i)
		}
	}
	return members
}

// expectTrial holds all three calls against trial, and gives how many pairs there are at most.
func expectTrial(t *testing.T, near []uint32) int {
	t.Helper()
	pairing, pairs := mostByTrial(near)
	expectMost(t, "one of many", near, pairing)
	left, right := coverByTrial(near)
	expectCover(t, "one of many", near, left, right)
	set, more := shortByTrial(near)
	expectShort(t, "one of many", near, set)
	if covered := bits.OnesCount32(left) + bits.OnesCount32(right); covered != pairs || len(near)-more != pairs {
		t.Errorf("%b: %d pairs, a cover of %d, %d short of %d", near, pairs, covered, more, len(near))
	}
	return pairs
}

// someWords takes so many words out of a number, so many bits each, and lays their bits on these places on the right.
func someWords(count int, places []int, choice uint) []uint32 {
	near := make([]uint32, count)
	for i := range near {
		for _, place := range places {
			near[i] |= uint32(choice&1) << place
			choice >>= 1
		}
	}
	return near
}

// E2, E3: all words of small sides, the right ones apart from one another, against trial.
func TestAllSmall(t *testing.T) {
	for _, c := range []struct {
		count  int
		places []int
	}{
		{0, []int{0}},
		{1, []int{0, 1, 2, 3, 4, 5, 6, 7}},
		{2, []int{0, 2, 3, 5, 7}},
		{3, []int{0, 1, 6, 7}},
		{4, []int{1, 4, 7}},
		{6, []int{0, 7}},
	} {
		for choice := range uint(1) << (c.count * len(c.places)) {
			expectTrial(t, someWords(c.count, c.places, choice))
		}
	}
}

// E2, E3: a spread of words of all eight, thin and less thin, against trial.
func TestAgainstTrial(t *testing.T) {
	all := []int{0, 1, 2, 3, 4, 5, 6, 7}
	met := [api.MaxSide + 1]int{}
	for seed := range uint(300) {
		thin := spread(seed) & spread(seed+1000)
		met[expectTrial(t, someWords(8, all, thin))]++
		met[expectTrial(t, someWords(8, all, thin&spread(seed+2000)))]++
		met[expectTrial(t, someWords(8, all, thin&spread(seed+2000)&spread(seed+3000)))]++
		met[expectTrial(t, someWords(7, all, spread(seed+4000)&spread(seed+5000)))]++
	}
	for _, pairs := range []int{4, 5, 6, 7, 8} {
		if met[pairs] < 20 {
			t.Errorf("a poor spread: %d with %d pairs", met[pairs], pairs)
		}
	}
}

// E3: a cover has just as many as there are pairs, and whom Short tells lack just as many as are without a pair, whatever the words.
func TestNoMoreLeftOver(t *testing.T) {
	all := []int{0, 1, 2, 3, 4, 5, 6, 7}
	for seed := range uint(5000) {
		near := someWords(int(seed%9), all, spread(seed)&(spread(seed+5000)|-(seed&1)))
		pairing, _ := Most(near)
		left, right, _ := Cover(near)
		set, _ := Short(near)
		without := 0
		reached := uint32(0)
		for i, word := range near {
			if pairing[i] < 0 {
				without++
			}
			if set>>i&1 == 1 {
				reached |= word
			}
		}
		if !covers(near, left, right) || bits.OnesCount32(left)+bits.OnesCount32(right) != len(near)-without {
			t.Errorf("%b: the pairing %v, the cover %b, %b", near, pairing, left, right)
		}
		if bits.OnesCount32(set)-bits.OnesCount32(reached) != without {
			t.Errorf("%b: the pairing %v, short %b", near, pairing, set)
		}
	}
}

// P3: neither the list that is handed in nor what lies behind its length is changed or read, nor is an answer kept.
func TestMemory(t *testing.T) {
	whole := words(1, 1, 2, math.MaxUint32, 1, 1, 1, 1, 1, 1)
	before := slices.Clone(whole)
	for range 2 {
		near := whole[:3]
		pairing, err := Most(near)
		if want := []int{0, -1, 1}; err != api.OK || !slices.Equal(pairing, want) {
			t.Errorf("Most: %v, %d, want %v", pairing, err, want)
		}
		for i := range pairing[:cap(pairing)] {
			pairing[:cap(pairing)][i] = 99
		}
		expectCover(t, "a piece of a list", near, 0, 3)
		expectShort(t, "a piece of a list", near, 3)
		if !slices.Equal(whole, before) {
			t.Errorf("the words became %v", whole)
		}
	}
}
