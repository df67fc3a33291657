package duty_test

import (
	"iter"
	"math/rand"
	"slices"
	"testing"

	"layover/api"
	"layover/duty"
)

func at(low, high, place int) duty.Relief {
	return duty.Relief{Place: place, At: duty.Range{Lo: low, Hi: high}}
}

// example is the day of the chapter's examples.
func example() duty.Day {
	return duty.Day{
		Law:  duty.Law{Piece: 240, Drive: 420, Spread: 600, Break: 30, On: 10, Off: 10, Least: 300, Pieces: 2},
		Walk: [][]int{{0, 5}, {5, 0}},
		Blocks: [][]duty.Relief{
			{at(300, 300, 0), at(420, 430, 1), at(530, 550, 0), at(650, 670, 0)},
			{at(400, 400, 0), at(500, 510, 1), at(600, 620, 0)},
		},
	}
}

func exampleBy(change func(l *duty.Law)) duty.Day {
	x := example()
	change(&x.Law)
	return x
}

// easyDay is a day at one place whose law forbids only breaks below 1.
func easyDay(blocks ...[]duty.Relief) duty.Day {
	return duty.Day{
		Law:    duty.Law{Piece: api.MaxDutyTime, Drive: api.MaxDutyTime, Spread: api.MaxDutyTime, Break: 1, Pieces: api.MaxDutyPieces},
		Walk:   [][]int{{0}},
		Blocks: blocks,
	}
}

// exact is a block at the place 0 whose reliefs are at these minutes.
func exact(minutes ...int) []duty.Relief {
	var block []duty.Relief
	for _, minute := range minutes {
		block = append(block, at(minute, minute, 0))
	}
	return block
}

func cloneAll[E any](lists [][]E) [][]E {
	var c [][]E
	for _, list := range lists {
		c = append(c, slices.Clone(list))
	}
	return c
}

func cloneDay(x duty.Day) duty.Day {
	x.Blocks = cloneAll(x.Blocks)
	x.Walk = cloneAll(x.Walk)
	return x
}

func sameAll[E comparable](a, b [][]E) bool { return slices.EqualFunc(a, b, slices.Equal[[]E]) }

func sameDay(a, b duty.Day) bool {
	return a.Law == b.Law && sameAll(a.Blocks, b.Blocks) && sameAll(a.Walk, b.Walk)
}

func sameWork(a, b duty.Work) bool {
	return a.Drive == b.Drive && a.Spread == b.Spread && a.Legal == b.Legal && slices.Equal(a.Breaks, b.Breaks)
}

// segment is the work between the reliefs number and number+1 of a block.
type segment struct{ block, number int }

func segments(x duty.Day) []segment {
	var list []segment
	for block, reliefs := range x.Blocks {
		for number := range reliefs[1:] {
			list = append(list, segment{block, number})
		}
	}
	return list
}

// listOf has the numbers whose bits are in a set.
func listOf(set int) []int {
	var list []int
	for number := range api.MaxDutySegments {
		if set>>number&1 == 1 {
			list = append(list, number)
		}
	}
	return list
}

func setOf(list []int) int {
	set := 0
	for _, number := range list {
		set |= 1 << number
	}
	return set
}

func all(x duty.Day) int { return 1<<len(segments(x)) - 1 }

// duties yields all lists of segments that rise and have one at least.
func duties(x duty.Day) iter.Seq[[]int] {
	return func(yield func([]int) bool) {
		for set := 1; set <= all(x); set++ {
			if !yield(listOf(set)) {
				return
			}
		}
	}
}

// truths yields each truth of a day; they share their memory.
func truths(x duty.Day) iter.Seq[[][]int] {
	return func(yield func([][]int) bool) {
		var times [][]int
		for _, block := range x.Blocks {
			times = append(times, make([]int, len(block)))
		}
		var fill func(block, number int) bool
		fill = func(block, number int) bool {
			if block == len(times) {
				return yield(times)
			}
			if number == len(times[block]) {
				return fill(block+1, 0)
			}
			reach := x.Blocks[block][number].At
			from := reach.Lo
			if number > 0 {
				from = max(from, times[block][number-1])
			}
			for minute := from; minute <= reach.Hi; minute++ {
				times[block][number] = minute
				if !fill(block, number+1) {
					return false
				}
			}
			return true
		}
		fill(0, 0)
	}
}

// stretch is a piece: the reliefs of a block from begin to end.
type stretch struct{ block, begin, end int }

// stretches are the pieces of a duty, in their order.
func stretches(x duty.Day, list []int) []stretch {
	var pieces []stretch
	numbered := segments(x)
	for _, number := range list {
		s := numbered[number]
		if last := len(pieces) - 1; last >= 0 && pieces[last].block == s.block && pieces[last].end == s.number {
			pieces[last].end++
			continue
		}
		pieces = append(pieces, stretch{s.block, s.number, s.number + 1})
	}
	slices.SortStableFunc(pieces, func(a, b stretch) int {
		return x.Blocks[a.block][a.begin].At.Lo - x.Blocks[b.block][b.begin].At.Lo
	})
	return pieces
}

// workIn is the definition of what a duty is in a truth.
func workIn(x duty.Day, list []int, times [][]int) duty.Work {
	pieces := stretches(x, list)
	w := duty.Work{Legal: len(pieces) <= x.Law.Pieces}
	for number, p := range pieces {
		lasts := times[p.block][p.end] - times[p.block][p.begin]
		w.Legal = w.Legal && lasts <= x.Law.Piece
		w.Drive += lasts
		if number == 0 {
			continue
		}
		before := pieces[number-1]
		rest := times[p.block][p.begin] - times[before.block][before.end]
		walk := x.Walk[x.Blocks[before.block][before.end].Place][x.Blocks[p.block][p.begin].Place]
		w.Legal = w.Legal && rest >= x.Law.Break+walk
		w.Breaks = append(w.Breaks, rest)
	}
	first, last := pieces[0], pieces[len(pieces)-1]
	w.Spread = x.Law.Off + times[last.block][last.end] - times[first.block][first.begin] + x.Law.On
	w.Legal = w.Legal && w.Drive <= x.Law.Drive && w.Spread <= x.Law.Spread
	return w
}

// inAll is whether a duty is legal in all truths, and its pay.
func inAll(x duty.Day, list []int) (legal bool, pay int) {
	legal, pay = true, x.Law.Least
	for times := range truths(x) {
		w := workIn(x, list, times)
		legal = legal && w.Legal
		pay = max(pay, w.Spread)
	}
	return legal, pay
}

// pays has the pay of each duty that is legal in all truths, by its set.
func pays(x duty.Day) map[int]int {
	known := map[int]int{}
	for list := range duties(x) {
		if legal, pay := inAll(x, list); legal {
			known[setOf(list)] = pay
		}
	}
	return known
}

// fewest tries each right plan: the fewest duties, and their least pay.
func fewest(x duty.Day) (many, pay int, ok bool) {
	known := pays(x)
	var try func(left, duties, coins int)
	try = func(left, duties, coins int) {
		if left == 0 {
			if !ok || duties < many || duties == many && coins < pay {
				many, pay, ok = duties, coins, true
			}
			return
		}
		for set, more := range known {
			if set&left == set && set&(left&-left) != 0 {
				try(left&^set, duties+1, coins+more)
			}
		}
	}
	try(all(x), 0, 0)
	return many, pay, ok
}

// randomDay is a valid day with few truths and few minutes in it, so that many
// numbers meet the law's.
func randomDay(r *rand.Rand, most int) duty.Day {
	x := duty.Day{Walk: randomWalk(r)}
	x.Law = duty.Law{
		Piece: 4 + r.Intn(20), Drive: 8 + r.Intn(30), Spread: 12 + r.Intn(40), Break: 1 + r.Intn(4),
		On: r.Intn(3), Off: r.Intn(3), Least: r.Intn(20), Pieces: 1 + r.Intn(api.MaxDutyPieces),
	}
	left, number := most, 200
	for left > 0 && len(x.Blocks) < api.MaxDutyBlocks && r.Intn(8) > 0 {
		many := 1 + r.Intn(min(left, 4))
		left -= many
		x.Blocks = append(x.Blocks, randomBlock(r, many, len(x.Walk), &number))
	}
	return x
}

func randomWalk(r *rand.Rand) [][]int {
	var walk [][]int
	places := 1 + r.Intn(3)
	for from := range places {
		walk = append(walk, make([]int, places))
		for to := range places {
			if from != to {
				walk[from][to] = r.Intn(5)
			}
		}
	}
	return walk
}

// randomBlock has not more truths than a number, which it divides by them.
func randomBlock(r *rand.Rand, many, places int, number *int) []duty.Relief {
	var block []duty.Relief
	low, high := r.Intn(15), 0
	for range many + 1 {
		wide := 0
		if r.Intn(3) == 0 {
			wide = r.Intn(5)
		}
		high = max(high, low+min(wide, *number-1))
		*number = max(1, *number/(high-low+1))
		block = append(block, at(low, high, r.Intn(places)))
		low += r.Intn(8)
		high = max(high, low)
	}
	return block
}

// forRandomDays calls check for many days, always the same ones.
func forRandomDays(t *testing.T, check func(t *testing.T, r *rand.Rand, x duty.Day)) {
	t.Helper()
	r := rand.New(rand.NewSource(11))
	for number := range 400 {
		check(t, r, randomDay(r, number%7))
		if t.Failed() {
			return
		}
	}
}

// anyTruth is a truth: each relief is at any minute of its range that is left.
func anyTruth(r *rand.Rand, x duty.Day) [][]int {
	var times [][]int
	for _, block := range x.Blocks {
		var minutes []int
		before := 0
		for _, relief := range block {
			from := max(before, relief.At.Lo)
			before = from + r.Intn(relief.At.Hi-from+1)
			minutes = append(minutes, before)
		}
		times = append(times, minutes)
	}
	return times
}

func anyDuty(r *rand.Rand, x duty.Day) []int {
	if all(x) == 0 {
		return nil
	}
	return listOf(1 + r.Intn(all(x)))
}

func mustLegal(t *testing.T, x duty.Day, list []int) bool {
	t.Helper()
	legal, e := duty.Legal(x, list)
	if e != api.OK {
		t.Fatalf("Legal of %v in %v: %v", list, x, e)
	}
	return legal
}

func mustDo(t *testing.T, x duty.Day, list []int, times [][]int) duty.Work {
	t.Helper()
	w, e := duty.Do(x, list, times)
	if e != api.OK {
		t.Fatalf("Do of %v at %v in %v: %v", list, times, x, e)
	}
	return w
}

// mustBest has no plan if there is none.
func mustBest(t *testing.T, x duty.Day) (plan [][]int, pay int, ok bool) {
	t.Helper()
	plan, pay, e := duty.Best(x)
	if e != api.OK && (e != api.ErrFail || plan != nil || pay != 0) {
		t.Fatalf("Best of %v: %v, %d, %v", x, plan, pay, e)
	}
	return plan, pay, e == api.OK
}
