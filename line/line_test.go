package line

import (
	"math"
	"slices"
	"testing"

	"teamster/api"
)

// weight: the greatest Time.
const weight = api.MaxWeight

// job: how long it takes, and those of its After. The other fields are not looked at.
func job(time int64, after ...int) api.Job {
	return api.Job{Time: time, After: after, Due: -1, Worth: math.MinInt64}
}

// row: so many jobs, each after the one that stands ahead of it in the list, or, if turned, after the one behind it.
func row(count int, time int64, turned bool) []api.Job {
	jobs := []api.Job{job(time)}
	for i := range count - 1 {
		jobs = append(jobs, job(time, i))
	}
	if !turned {
		return jobs
	}
	for i := range jobs {
		jobs[i] = job(time)
		if i < count-1 {
			jobs[i].After = []int{i + 1}
		}
	}
	return jobs
}

// upTo: the numbers from 0 on, ahead of count.
func upTo(count int) []int {
	var list []int
	for i := range count {
		list = append(list, i)
	}
	return list
}

// spread: a number that looks as if it came from nowhere, the same each time.
func spread(seed uint) uint {
	seed = (seed + 1) * 0x9E3779B97F4A7C15
	seed = (seed ^ seed>>30) * 0xBF58476D1CE4E5B9
	seed = (seed ^ seed>>27) * 0x94D049BB133111EB
	return seed ^ seed>>31
}

func expectOrder(t *testing.T, name string, jobs []api.Job, want []int) {
	t.Helper()
	if order, err := Order(jobs); err != api.OK || !slices.Equal(order, want) {
		t.Errorf("Order of %s, %v: %v, %d, want %v", name, jobs, order, err, want)
	}
}

// times is what Times tells.
type times struct {
	earliest, latest []int64
	end              int64
}

// same says whether two tell the same.
func (w times) same(other times) bool {
	return w.end == other.end && slices.Equal(w.earliest, other.earliest) && slices.Equal(w.latest, other.latest)
}

func expectTimes(t *testing.T, name string, jobs []api.Job, want times) {
	t.Helper()
	earliest, latest, end, err := Times(jobs)
	if err != api.OK || !want.same(times{earliest, latest, end}) {
		t.Errorf("Times of %s, %v: %v, %v, %d, %d, want %v", name, jobs, earliest, latest, end, err, want)
	}
}

// expectWrong: both calls tell the same errors.
func expectWrong(t *testing.T, name string, jobs []api.Job, want api.Errno) {
	t.Helper()
	if order, err := Order(jobs); err != want || len(order) != 0 {
		t.Errorf("Order of %s, %v: %v, %d, want %d", name, jobs, order, err, want)
	}
	if earliest, latest, end, err := Times(jobs); err != want || len(earliest) != 0 || len(latest) != 0 || end != 0 {
		t.Errorf("Times of %s, %v: %v, %v, %d, %d, want %d", name, jobs, earliest, latest, end, err, want)
	}
}

type orderCase struct {
	name string
	jobs []api.Job
	want []int
}

func orderCases() []orderCase {
	return []orderCase{
		{"no jobs, nil", nil, nil},
		{"no jobs", []api.Job{}, nil},
		{"one job", []api.Job{job(5)}, []int{0}},
		{"the chapter's example", []api.Job{job(3), job(2, 0)}, []int{0, 1}},
		{"the chapter's example, turned", []api.Job{job(2, 1), job(3)}, []int{1, 0}},
		{"jobs that hang on none", []api.Job{job(9), job(0), job(5), job(1)}, []int{0, 1, 2, 3}},
		{"the After come later in the list", []api.Job{job(1, 1, 2, 3), job(1, 3), job(1, 3, 1), job(1)}, []int{3, 1, 2, 0}},
		{"a job must wait for a later one, others don't", []api.Job{job(1, 3), job(1), job(1), job(1)}, []int{1, 2, 3, 0}},
		{"a lesser place comes free in the midst", []api.Job{job(1, 2), job(1, 0), job(1), job(1)}, []int{2, 0, 1, 3}},
		{"what comes free is greater", []api.Job{job(1), job(1), job(1, 0)}, []int{0, 1, 2}},
		{"what comes free is lesser, but not the next one", []api.Job{job(1, 4), job(1), job(1, 4), job(1), job(1, 3)}, []int{1, 3, 4, 0, 2}},
		{"a long job is no worse", []api.Job{job(weight), job(0), job(1, 1)}, []int{0, 1, 2}},
		{"layers would tell another order", []api.Job{job(1), job(1, 0), job(1, 1), job(1)}, []int{0, 1, 2, 3}},
		{"the last one first would tell another order", []api.Job{job(1, 4), job(1), job(1, 3), job(1), job(1)}, []int{1, 3, 2, 4, 0}},
		{"the same number twice", []api.Job{job(1, 1, 1), job(1), job(1, 0, 1, 0)}, []int{1, 0, 2}},
		{"in After, more is behind than ahead", []api.Job{job(1, 3, 1, 2), job(1), job(1), job(1, 2)}, []int{1, 2, 3, 0}},
		{"a row of ten", row(10, 1, false), upTo(10)},
		{"a row of ten, turned", row(10, 1, true), []int{9, 8, 7, 6, 5, 4, 3, 2, 1, 0}},
		{"ten that hang on none", slices.Repeat([]api.Job{job(1)}, 10), upTo(10)},
		{"ten of After, but one number", []api.Job{job(1, 1, 1, 1, 1, 1, 1, 1, 1, 1, 1), job(1)}, []int{1, 0}},
		{"each one after all behind it", thick(), []int{9, 8, 7, 6, 5, 4, 3, 2, 1, 0}},
	}
}

// thick: ten jobs, each of them after all that stand behind it in the list, the last one of these twice or more, so that there are ten of After.
func thick() []api.Job {
	var jobs []api.Job
	for i := range 9 {
		made := job(1, upTo(10)[i+1:]...)
		made.After = append(made.After, slices.Repeat([]int{9}, 10-len(made.After))...)
		jobs = append(jobs, made)
	}
	return append(jobs, job(1))
}

// L1: orders that are worked out by hand.
func TestOrderByHand(t *testing.T) {
	for _, c := range orderCases() {
		expectOrder(t, c.name, c.jobs, c.want)
	}
}

type timesCase struct {
	name string
	jobs []api.Job
	want times
}

func timesCases() []timesCase {
	return []timesCase{
		{"no jobs, nil", nil, times{}},
		{"no jobs", []api.Job{}, times{}},
		{"one job", []api.Job{job(5)}, times{[]int64{0}, []int64{0}, 5}},
		{"one job of no time", []api.Job{job(0)}, times{[]int64{0}, []int64{0}, 0}},
		{"the chapter's example", []api.Job{job(3), job(2, 0)}, times{[]int64{0, 3}, []int64{0, 3}, 5}},
		{"the chapter's example, turned", []api.Job{job(2, 1), job(3)}, times{[]int64{3, 0}, []int64{3, 0}, 5}},
		{"the chapter's example, and one that has time to lose", []api.Job{job(3), job(2, 0), job(1)}, times{[]int64{0, 3, 0}, []int64{0, 3, 4}, 5}},
		{"jobs that hang on none", []api.Job{job(9), job(0), job(5), job(1)}, times{[]int64{0, 0, 0, 0}, []int64{0, 9, 4, 8}, 9}},
		{"all take no time", []api.Job{job(0, 1), job(0), job(0, 0)}, times{[]int64{0, 0, 0}, []int64{0, 0, 0}, 0}},
		{"no time in the midst", []api.Job{job(4), job(0, 0), job(3, 1), job(0, 2)}, times{[]int64{0, 4, 4, 7}, []int64{0, 4, 4, 7}, 7}},
		{"no time at the end of another one", []api.Job{job(4), job(1), job(0, 1)}, times{[]int64{0, 0, 1}, []int64{0, 3, 4}, 4}},
		{"the later of two", []api.Job{job(3), job(5), job(1, 0, 1)}, times{[]int64{0, 0, 5}, []int64{2, 0, 5}, 6}},
		{"the later of two, first", []api.Job{job(5), job(3), job(1, 0, 1)}, times{[]int64{0, 0, 5}, []int64{0, 2, 5}, 6}},
		{"the earlier of two that hang on one", []api.Job{job(2), job(3, 0), job(6, 0)}, times{[]int64{0, 2, 2}, []int64{0, 5, 2}, 8}},
		{"two ways of three", []api.Job{job(1), job(4, 0), job(2, 0), job(1, 1, 2)}, times{[]int64{0, 1, 1, 5}, []int64{0, 1, 3, 5}, 6}},
		{"a row that has time to lose", []api.Job{job(1), job(1, 0), job(1, 1), job(9)}, times{[]int64{0, 1, 2, 0}, []int64{6, 7, 8, 0}, 9}},
		{"the end is not where the last job is", []api.Job{job(7), job(1, 2), job(1)}, times{[]int64{0, 1, 0}, []int64{0, 6, 5}, 7}},
		{"the longest job is not on the longest row", []api.Job{job(5), job(3), job(3, 1)}, times{[]int64{0, 0, 3}, []int64{1, 0, 3}, 6}},
		{"the After come later in the list", []api.Job{job(1, 1, 2), job(2, 3), job(5, 3), job(4)}, times{[]int64{9, 4, 4, 0}, []int64{9, 7, 4, 0}, 10}},
		{"the same number twice", []api.Job{job(2), job(3, 0, 0), job(1, 1, 0, 1)}, times{[]int64{0, 2, 5}, []int64{0, 2, 5}, 6}},
		{"a row besides its short cut", []api.Job{job(2), job(3, 0), job(1, 0, 1)}, times{[]int64{0, 2, 5}, []int64{0, 2, 5}, 6}},
		{"the greatest time", []api.Job{job(weight), job(0, 0), job(1)}, times{[]int64{0, weight, 0}, []int64{0, weight, weight - 1}, weight}},
		{"each one after all behind it", thick(), times{[]int64{9, 8, 7, 6, 5, 4, 3, 2, 1, 0}, []int64{9, 8, 7, 6, 5, 4, 3, 2, 1, 0}, 10}},
	}
}

// L2: the chapter's example, and others that are worked out by hand.
func TestTimesByHand(t *testing.T) {
	for _, c := range timesCases() {
		expectTimes(t, c.name, c.jobs, c.want)
	}
}

// L2: rows of ten jobs, of no time and of the greatest one.
func TestRowsOfTen(t *testing.T) {
	for _, time := range []int64{0, 1, weight} {
		var begins []int64
		for i := range int64(10) {
			begins = append(begins, i*time)
		}
		expectTimes(t, "a row", row(10, time, false), times{begins, begins, 10 * time})
		slices.Reverse(begins)
		expectTimes(t, "a row, turned", row(10, time, true), times{begins, begins, 10 * time})
		all := make([]int64, 10)
		expectTimes(t, "ten beside each other", slices.Repeat([]api.Job{job(time)}, 10), times{all, all, time})
	}
}

// L1, L2: what a job is due for and what it weighs is not looked at.
func TestOtherFieldsDoNotMatter(t *testing.T) {
	for _, other := range []int64{math.MinInt64, -1, 0, 1, weight + 1, math.MaxInt64} {
		jobs := []api.Job{{Time: 2, After: []int{1}, Due: other, Worth: 3}, {Time: 3, Due: 1, Worth: other}, {Time: 1, Due: other, Worth: other}}
		expectOrder(t, "other fields", jobs, []int{1, 0, 2})
		expectTimes(t, "other fields", jobs, times{[]int64{3, 0, 0}, []int64{3, 0, 4}, 5})
	}
}

// firstByTrial tries the orders of all jobs, the lesser place first and taking back what leads no further, and gives the first one that is well made; nil, if none is.
func firstByTrial(jobs []api.Job) []int {
	order := make([]int, 0, len(jobs))
	var goOn func() bool
	goOn = func() bool {
		if len(order) == len(jobs) {
			return true
		}
		for next := range jobs {
			behind := func(other int) bool { return slices.Contains(order, other) }
			if behind(next) || slices.ContainsFunc(jobs[next].After, func(other int) bool { return !behind(other) }) {
				continue
			}
			order = append(order, next)
			if goOn() {
				return true
			}
			order = order[:len(order)-1]
		}
		return false
	}
	if !goOn() {
		return nil
	}
	return order
}

// work lets all that may begin do so, moment by moment, but the one that is held, which waits until it is let go; and gives when each begins, and when all are done.
func work(jobs []api.Job, held int, until int64) ([]int64, int64) {
	begins := slices.Repeat([]int64{-1}, len(jobs))
	left, end := len(jobs), int64(0)
	for now := int64(0); left > 0; now++ {
		open := func(other int) bool { return begins[other] < 0 || begins[other]+jobs[other].Time > now }
		for again := true; again; { // what takes no time lets others begin at the same moment
			again = false
			for i, j := range jobs {
				if begins[i] >= 0 || slices.ContainsFunc(j.After, open) || i == held && now < until {
					continue
				}
				begins[i], again = now, true
				end = max(end, now+j.Time)
				left--
			}
		}
	}
	return begins, end
}

// timesByTrial lets all begin as early as can be, and then each one later and later, as long as all is done when it was. The jobs don't come round.
func timesByTrial(jobs []api.Job) times {
	earliest, end := work(jobs, -1, 0)
	latest := slices.Clone(earliest)
	for i := range jobs {
		for until := earliest[i] + 1; until <= end; until++ {
			if _, later := work(jobs, i, until); later > end {
				break
			}
			latest[i] = until
		}
	}
	return times{earliest, latest, end}
}

// timesByChains knows of times of any length what timesByTrial does of short ones: the longest chain of jobs to each one, and from it on. The jobs don't come round.
func timesByChains(jobs []api.Job) times {
	known := times{make([]int64, len(jobs)), make([]int64, len(jobs)), 0}
	onFrom := make([]int64, len(jobs))
	var chain func(i int, length int64, first int)
	chain = func(i int, length int64, first int) {
		length += jobs[i].Time
		known.earliest[first] = max(known.earliest[first], length-jobs[first].Time)
		onFrom[i] = max(onFrom[i], length)
		known.end = max(known.end, length)
		for _, other := range jobs[i].After {
			chain(other, length, first)
		}
	}
	for i := range jobs {
		chain(i, 0, i)
	}
	for i := range jobs {
		known.latest[i] = known.end - onFrom[i]
	}
	return known
}

// numbered: so many jobs, whose After are of the number's digits of two: whether each one has each one, itself too, if that is asked for.
func numbered(count, number int, itself bool, timeOf func(i int) int64) []api.Job {
	jobs := make([]api.Job, count)
	for i := range jobs {
		jobs[i].Time = timeOf(i)
		for other := range jobs {
			if other == i && !itself {
				continue
			}
			if number&1 == 1 {
				jobs[i].After = append(jobs[i].After, other)
			}
			number >>= 1
		}
	}
	return jobs
}

// digit gives the i-th digit of the number, of three.
func digit(number, i int) int64 {
	for range i {
		number /= 3
	}
	return int64(number % 3)
}

// L1, L2: all jobs of the times 0, 1 and 2, up to four of them and whatever they hang on, against trial of all orders and of all delays.
func TestAllSmall(t *testing.T) {
	none, some, lose := 0, 0, 0
	kinds := 1
	for count := range 5 {
		for number := range 1 << (count * count) {
			order := firstByTrial(numbered(count, number, true, func(int) int64 { return 1 }))
			if len(order) < count {
				none++
				expectWrong(t, "one of many", numbered(count, number, true, func(i int) int64 { return int64(number + i) }), api.ErrNone)
				continue
			}
			for kind := range kinds {
				jobs := numbered(count, number, true, func(i int) int64 { return digit(kind, i) })
				known := timesByTrial(jobs)
				expectOrder(t, "one of many", jobs, order)
				expectTimes(t, "one of many", jobs, known)
				if chains := timesByChains(jobs); !chains.same(known) {
					t.Fatalf("the two ways to know of %v tell %v and %v", jobs, known, chains)
				}
				some++
				if !slices.Equal(known.earliest, known.latest) {
					lose++
				}
			}
		}
		kinds *= 3
	}
	// There are 1, 1, 3, 25 and 543 ways to hang on each other without a ring.
	if none != 1<<16+1<<9+1<<4+1<<1+1-573 || some != 1+3+3*9+25*27+543*81 || lose < 10000 {
		t.Errorf("a poor spread: %d, %d, %d", none, some, lose)
	}
}

// L1, L2: some of what five jobs may hang on.
func TestSomeOfFive(t *testing.T) {
	none, some := 0, 0
	for number := 0; number < 1<<20; number += 5 {
		luck := int(spread(uint(number)) % 243)
		jobs := numbered(5, number, false, func(i int) int64 { return digit(luck, i) })
		order := firstByTrial(jobs)
		if len(order) < 5 {
			none++
			expectWrong(t, "one of many", jobs, api.ErrNone)
			continue
		}
		some++
		expectOrder(t, "one of many", jobs, order)
		expectTimes(t, "one of many", jobs, timesByTrial(jobs))
	}
	if none < 100000 || some < 5000 {
		t.Errorf("a poor spread: %d, %d", none, some)
	}
}

// shuffled: the numbers from 0 on, ahead of count, in some order.
func shuffled(count int, seed uint) []int {
	list := upTo(count)
	for i := range list {
		other := i + int(spread(seed*32+uint(i))%uint(count-i))
		list[i], list[other] = list[other], list[i]
	}
	return list
}

// tangled: so many jobs, each of which hangs on some that stand ahead of it in a shuffled order: about one of every so many; they are named in any order, and some twice.
func tangled(count int, rare uint, most int64, seed uint) []api.Job {
	jobs, order := make([]api.Job, count), shuffled(count, seed)
	for place, i := range order {
		jobs[i].Time = int64(spread(seed*64+uint(i)+1<<50) % uint(most+1))
		for _, other := range shuffled(count, seed*16+uint(i)+1<<40) {
			if slices.Index(order, other) < place && spread(seed*1024+uint(i*32+other))%rare == 0 {
				jobs[i].After = append(jobs[i].After, other)
			}
		}
		jobs[i].After = someTwice(jobs[i].After, spread(seed*64+uint(i)+1<<45))
	}
	return jobs
}

// someTwice: the list with some of it once more at its end, up to nine in all.
func someTwice(list []int, luck uint) []int {
	for len(list) > 0 && len(list) < api.MaxNodes-1 && luck%3 == 0 {
		luck /= 3
		list = append(list, list[luck%uint(len(list))])
		luck /= 9
	}
	return list
}

// behindAll gives of each job on which ones it hangs, be it by way of others, as words.
func behindAll(jobs []api.Job) []uint32 {
	words := make([]uint32, len(jobs))
	for i, j := range jobs {
		for _, other := range j.After {
			words[i] |= 1 << other
		}
	}
	for by := range jobs {
		for i := range jobs {
			if words[i]>>by&1 == 1 {
				words[i] |= words[by]
			}
		}
	}
	return words
}

// expectFirst: Order answers an order in which nobody stands ahead of whom it hangs on, and everybody ahead of greater ones, but for those it hangs on by whatever way.
func expectFirst(t *testing.T, jobs []api.Job) []int {
	t.Helper()
	order, err := Order(jobs)
	sorted := slices.Sorted(slices.Values(order))
	if err != api.OK || !slices.Equal(sorted, upTo(len(jobs))) {
		t.Errorf("Order of %v: %v, %d, want all jobs", jobs, order, err)
		return order
	}
	words, taken := behindAll(jobs), uint32(0)
	for place, i := range order {
		if words[i]&^taken != 0 {
			t.Errorf("Order of %v: %v, in which %d stands too early", jobs, order, i)
		}
		for _, j := range order[place:] {
			if j < i && words[j]&^taken == 0 {
				t.Errorf("Order of %v: %v, in which %d could stand in the place of %d", jobs, order, j, i)
			}
		}
		taken |= 1 << i
	}
	return order
}

// L1, L2: a spread of six to ten jobs, against what can be told of an order, and against chains.
func TestGreater(t *testing.T) {
	odd, lose, twice := 0, 0, 0
	for seed := range uint(6000) {
		luck := spread(seed + 777)
		jobs := tangled(6+int(luck%5), []uint{1, 2, 3, 5, 9}[luck>>8%5], []int64{0, 1, 9, 1000, weight}[luck>>16%5], seed)
		known := timesByChains(jobs)
		expectTimes(t, "one of many", jobs, known)
		if order := expectFirst(t, jobs); !slices.IsSorted(order) {
			odd++
		}
		if !slices.Equal(known.earliest, known.latest) {
			lose++
		}
		if slices.ContainsFunc(jobs, func(j api.Job) bool {
			return len(slices.Compact(slices.Sorted(slices.Values(j.After)))) < len(j.After)
		}) {
			twice++
		}
	}
	if odd < 4000 || lose < 3000 || twice < 2000 {
		t.Errorf("a poor spread: %d, %d, %d", odd, lose, twice)
	}
}

// L1, L2: a spread of six to ten jobs of which some come round, as one must wait besides for one that hangs on it, or for itself.
func TestGreaterRound(t *testing.T) {
	itself, others, far := 0, 0, 0
	for seed := range uint(4000) {
		luck := spread(seed + 999)
		jobs := tangled(6+int(luck%5), []uint{1, 2, 3, 5}[luck>>8%4], 9, seed)
		last := int(luck >> 16 % uint(len(jobs)))
		on, words := []int{last}, behindAll(jobs)
		for i := range jobs {
			if words[last]>>i&1 == 1 {
				on = append(on, i)
			}
		}
		first := on[luck>>24%uint(len(on))]
		switch {
		case first == last:
			itself++
		case slices.Contains(jobs[last].After, first):
			others++
		default:
			far++
		}
		jobs[first].After = append(jobs[first].After, last)
		expectWrong(t, "one of many", jobs, api.ErrNone)
	}
	if itself < 500 || others < 500 || far < 200 {
		t.Errorf("a poor spread: %d, %d, %d", itself, others, far)
	}
}

type roundCase struct {
	name string
	jobs []api.Job
}

// allRound: ten jobs, each after all ten.
func allRound() []api.Job {
	return slices.Repeat([]api.Job{job(1, upTo(10)...)}, 10)
}

func roundCases() []roundCase {
	ten := row(10, weight, false)
	ten[0].After = []int{9}
	turned := row(10, 0, true)
	turned[9].After = []int{0}
	tail := row(10, 1, false)
	tail[8].After = []int{9}
	return []roundCase{
		{"one of its own After", []api.Job{job(1, 0)}},
		{"one of its own After, of no time", []api.Job{job(0, 0)}},
		{"one of its own After, ten times", []api.Job{job(1, slices.Repeat([]int{0}, 10)...)}},
		{"of its own After besides", []api.Job{job(1), job(2, 0, 1), job(3)}},
		{"the first one of its own After", []api.Job{job(1, 0), job(2), job(3)}},
		{"the last one of its own After", []api.Job{job(1), job(2), job(3, 2)}},
		{"two", []api.Job{job(3, 1), job(2, 0)}},
		{"two of no time", []api.Job{job(0, 1), job(0, 0)}},
		{"two besides one", []api.Job{job(3, 1), job(2, 0), job(1)}},
		{"two behind one", []api.Job{job(1), job(3, 2), job(2, 1, 0)}},
		{"two ahead of one", []api.Job{job(1, 1), job(3, 2), job(2, 1)}},
		{"three", []api.Job{job(1, 2), job(1, 0), job(1, 1)}},
		{"three, turned", []api.Job{job(1, 1), job(1, 2), job(1, 0)}},
		{"twice two", []api.Job{job(1, 3), job(1, 2), job(1, 1), job(1, 0)}},
		{"ten", ten},
		{"ten, turned", turned},
		{"the end of a row of ten", tail},
		{"each of ten after all ten", allRound()},
	}
}

// L1, L2: there is no order of jobs that come round.
func TestNoOrder(t *testing.T) {
	for _, c := range roundCases() {
		expectWrong(t, c.name, c.jobs, api.ErrNone)
	}
}

// tooMuchCases: of jobs or of After is more than can be, whatever else is wrong.
func tooMuchCases() []roundCase {
	eleven := slices.Repeat([]int{0}, 11)
	return []roundCase{
		{"eleven jobs", slices.Repeat([]api.Job{job(1)}, 11)},
		{"eleven jobs in a row", row(11, 1, false)},
		{"eleven jobs, of bad times", slices.Repeat([]api.Job{job(-1)}, 11)},
		{"eleven jobs, after no job", slices.Repeat([]api.Job{job(1, -1)}, 11)},
		{"eleven jobs, each of its own After or of another", slices.Repeat([]api.Job{job(1, upTo(10)...)}, 11)},
		{"eleven jobs with eleven of After", slices.Repeat([]api.Job{job(1, eleven...)}, 11)},
		{"many jobs", make([]api.Job, 1000)},
		{"eleven of After", []api.Job{job(1), job(1, eleven...)}},
		{"eleven of After, all of them one less", []api.Job{job(1), job(1, upTo(11)...)}},
		{"eleven of After, and the first job has a bad time", []api.Job{job(-1), job(1), job(1, eleven...)}},
		{"eleven of After, and the first job is after no job", []api.Job{job(1, 3), job(1), job(1, eleven...)}},
		{"eleven of After, and the first job is after itself", []api.Job{job(1, 0), job(1), job(1, eleven...)}},
		{"eleven of After, and a bad time", []api.Job{job(1), job(weight+1, eleven...)}},
		{"eleven of After that are no jobs", []api.Job{job(1, slices.Repeat([]int{-1}, 11)...), job(-1)}},
		{"eleven of its own After", []api.Job{job(1, eleven...)}},
		{"eleven of After, in the midst", []api.Job{job(-1), job(1, eleven...), job(1, 3)}},
		{"many of After", []api.Job{job(1), job(1, make([]int, 1000)...)}},
	}
}

// L1, L2, P2: ErrLarge, ahead of whatever else is wrong.
func TestTooMuch(t *testing.T) {
	for _, c := range tooMuchCases() {
		expectWrong(t, c.name, c.jobs, api.ErrLarge)
	}
}

// L1, L2: the Time of one job is out of range, wherever it stands, and also if the jobs come round.
func TestWrongTimes(t *testing.T) {
	for _, bad := range []int64{-1, -weight, math.MinInt64, weight + 1, 1 << 32, math.MaxInt64} {
		expectWrong(t, "one job", []api.Job{job(bad)}, api.ErrRange)
		for i := range 10 {
			for _, jobs := range [][]api.Job{row(10, 1, false), row(10, weight, true), allRound()} {
				jobs[i].Time = bad
				expectWrong(t, "ten jobs", jobs, api.ErrRange)
			}
		}
	}
}

// L1, L2: a number of After is no job, wherever it stands, and also if the jobs come round.
func TestWrongAfter(t *testing.T) {
	for _, bad := range []int{-1, -10, math.MinInt, 10, 11, 32, 64, 1 << 32, math.MaxInt} {
		for i := range 10 {
			for _, jobs := range [][]api.Job{row(10, 0, false), row(10, weight, true), allRound()} {
				after := jobs[i].After
				for place := range after {
					jobs[i].After = slices.Concat(after[:place], []int{bad}, after[place+1:])
					expectWrong(t, "ten jobs, instead of another one", jobs, api.ErrArg)
				}
				jobs[i].After = slices.Concat([]int{bad}, after[:min(len(after), 9)])
				expectWrong(t, "ten jobs, ahead of others", jobs, api.ErrArg)
			}
		}
	}
}

// L1, L2: the number of jobs is the least one that is too large.
func TestAfterJustTooLarge(t *testing.T) {
	for count := 1; count <= 10; count++ {
		for i := range count {
			jobs := row(count, 1, false)
			jobs[i].After = append(jobs[i].After, count-1)
			expectWrong(t, "after the last one", jobs, api.ErrNone)
			jobs[i].After = append(jobs[i].After, count)
			expectWrong(t, "after one behind the last one", jobs, api.ErrArg)
		}
	}
}

type wrongCase struct {
	name string
	jobs []api.Job
	want api.Errno
}

// L1, L2, P2: of several faults that of the first job is told, and of one job's its Time; and each ahead of ErrNone.
func TestWhichFault(t *testing.T) {
	for _, c := range []wrongCase{
		{"one job, both ways", []api.Job{job(-1, 1)}, api.ErrRange},
		{"one job, both ways, the other ends", []api.Job{job(weight+1, -1)}, api.ErrRange},
		{"a later job, both ways", []api.Job{job(0), job(weight), job(-1, 0, 3, 1)}, api.ErrRange},
		{"After first, then Time", []api.Job{job(1, 2), job(-1)}, api.ErrArg},
		{"Time first, then After", []api.Job{job(-1), job(1, 2)}, api.ErrRange},
		{"After first, then both", []api.Job{job(1), job(1, 0, -1), job(-1, -1)}, api.ErrArg},
		{"both, then After", []api.Job{job(-1, -1), job(1, 3), job(1)}, api.ErrRange},
		{"After in the midst, then Time", []api.Job{job(1), job(1, 3), job(weight + 1)}, api.ErrArg},
		{"Time in the midst, then After", []api.Job{job(1), job(-1, 0), job(1, 3)}, api.ErrRange},
		{"the first one is after a bad one, which stands ahead of a worse one", []api.Job{job(1, 2), job(1, -1), job(-1)}, api.ErrArg},
		{"Time behind two that come round", []api.Job{job(1, 1), job(1, 0), job(-1)}, api.ErrRange},
		{"After behind two that come round", []api.Job{job(1, 1), job(1, 0), job(1, 3)}, api.ErrArg},
		{"Time of one that is after itself", []api.Job{job(1), job(-1, 1)}, api.ErrRange},
		{"After of one that is after itself", []api.Job{job(1), job(1, 1, 2)}, api.ErrArg},
		{"After of one that is after itself, ahead of Time", []api.Job{job(1, 0, -1), job(-1)}, api.ErrArg},
		{"After of one that is after itself, turned", []api.Job{job(1), job(1, -1, 1)}, api.ErrArg},
	} {
		expectWrong(t, c.name, c.jobs, c.want)
	}
}

// P3: the jobs that are handed in are neither changed nor read behind their lengths, and no answer is kept.
func TestJobsAreLeftAlone(t *testing.T) {
	after := []int{1, 1, 0, 77, -1}
	whole := []api.Job{job(2), job(4), job(3), job(1), job(-1, 77)}
	whole[0].After, whole[2].After = after[:2], after[1:3]
	before, afterBefore := slices.Clone(whole), slices.Clone(after)
	for range 2 {
		jobs := whole[:4]
		expectOrder(t, "a piece of a list", jobs, []int{1, 0, 2, 3})
		expectTimes(t, "a piece of a list", jobs, times{[]int64{4, 0, 6, 0}, []int64{4, 0, 6, 8}, 9})
		expectOrder(t, "a shorter piece of a list", whole[:2], []int{1, 0})
		expectWrong(t, "a longer piece of a list", whole, api.ErrRange)
		order, _ := Order(jobs)
		for i := range order[:cap(order)] {
			order[:cap(order)][i] = 99
		}
		if !slices.Equal(after, afterBefore) || !slices.EqualFunc(whole, before, alike) {
			t.Errorf("the jobs became %v, and what they come after %v", whole, after)
		}
	}
}

// alike says whether two jobs are the same.
func alike(one, other api.Job) bool {
	return one.Time == other.Time && one.Due == other.Due && one.Worth == other.Worth && slices.Equal(one.After, other.After)
}

// P3: no two lists of an answer share memory, not behind their lengths either, also where they say the same.
func TestAnswersAreNewMemory(t *testing.T) {
	jobs := row(10, 1, false)
	begins := []int64{0, 1, 2, 3, 4, 5, 6, 7, 8, 9}
	for range 2 {
		expectTimes(t, "a row", jobs, times{begins, begins, 10})
		earliest, latest, _, _ := Times(jobs)
		for i := range earliest[:cap(earliest)] {
			earliest[:cap(earliest)][i] = 50
		}
		for i := range latest[:cap(latest)] {
			latest[:cap(latest)][i] = 60
		}
		if slices.Contains(earliest, 60) || slices.Contains(latest, 50) {
			t.Errorf("the lists share memory: %v, %v", earliest, latest)
		}
	}
}

// P3: what is answered is the same each time.
func TestAgain(t *testing.T) {
	for seed := range uint(300) {
		jobs := tangled(10, 3, 5, seed)
		order, _ := Order(jobs)
		earliest, latest, end, _ := Times(jobs)
		for range 3 {
			expectOrder(t, "again", jobs, order)
			expectTimes(t, "again", jobs, times{earliest, latest, end})
		}
	}
}
