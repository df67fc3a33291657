package duty_test

import (
	"math/rand"
	"slices"
	"testing"

	"layover/api"
	"layover/duty"
)

// P2.6, P3: a right plan holds in each truth.
func TestWhateverTheTraffic(t *testing.T) {
	forRandomDays(t, func(t *testing.T, r *rand.Rand, x duty.Day) {
		plan, _, _ := mustBest(t, x)
		var done []int
		for _, list := range plan {
			done = append(done, list...)
			pay, e := duty.Pay(x, list)
			for times := range truths(x) {
				if w := mustDo(t, x, list, times); !w.Legal || w.Spread > pay || e != api.OK {
					t.Errorf("%v at %v in %v: %v, paid %d, %v", list, times, x, w, pay, e)
				}
			}
		}
		slices.Sort(done)
		if len(slices.Compact(done)) != len(done) {
			t.Errorf("plan of %v: %v", x, plan)
		}
	})
}

// P2.6: a duty that is not legal is not in some truth.
func TestSomeTruth(t *testing.T) {
	forRandomDays(t, func(t *testing.T, r *rand.Rand, x duty.Day) {
		list := anyDuty(r, x)
		if list == nil || mustLegal(t, x, list) {
			return
		}
		for times := range truths(x) {
			if !mustDo(t, x, list, times).Legal {
				return
			}
		}
		t.Errorf("%v in %v is legal in each truth", list, x)
	})
}

// P2.8, P4: fair weights do not bound more duties than a best plan has.
func TestBoundProves(t *testing.T) {
	reached := 0
	forRandomDays(t, func(t *testing.T, r *rand.Rand, x duty.Day) {
		plan, _, ok := mustBest(t, x)
		if !ok || len(plan) == 0 {
			return
		}
		for range 20 {
			n, e := duty.Bound(x, randomWeights(r, x))
			if n > len(plan) || e != api.OK && e != api.ErrFail {
				t.Errorf("Bound of %v: %d, %v; the plan %v", x, n, e, plan)
			}
			if n == len(plan) {
				reached++
			}
		}
	})
	if reached < 100 {
		t.Errorf("only %d weights reached the number of duties", reached)
	}
}

// P2.8: weights of 1000 for segments, no two of which are in a legal duty.
func TestApart(t *testing.T) {
	forRandomDays(t, func(t *testing.T, r *rand.Rand, x duty.Day) {
		together := map[[2]int]bool{}
		for list := range duties(x) {
			if !mustLegal(t, x, list) {
				continue
			}
			for _, one := range list {
				for _, other := range list {
					together[[2]int{one, other}] = one != other
				}
			}
		}
		weights := make([]int, len(segments(x)))
		var apart []int
		for _, number := range r.Perm(len(weights)) {
			if !slices.ContainsFunc(apart, func(other int) bool { return together[[2]int{number, other}] }) {
				apart = append(apart, number)
				weights[number] = 1000
			}
		}
		if n, e := duty.Bound(x, weights); n != len(apart) || e != api.OK {
			t.Errorf("Bound of %v in %v: %d, %v", weights, x, n, e)
		}
	})
}

// P2.9, P5: there is a best plan just if no segment is barred, which is so if it
// may not be a duty alone.
func TestBarredAlone(t *testing.T) {
	forRandomDays(t, func(t *testing.T, r *rand.Rand, x duty.Day) {
		barred, e := duty.Barred(x)
		if _, _, ok := mustBest(t, x); ok != (e == api.ErrNone) {
			t.Errorf("Best of %v: %v, Barred: %v", x, ok, barred)
		}
		for number := range segments(x) {
			if slices.Contains(barred, number) == mustLegal(t, x, []int{number}) {
				t.Errorf("Barred of %v: %v", x, barred)
			}
		}
	})
}

// checkEasier: what is legal in a day is so in another one, and the fewest duties
// are not more.
func checkEasier(t *testing.T, x, easy duty.Day, renamed func(list []int) []int) {
	t.Helper()
	for list := range duties(x) {
		if mustLegal(t, x, list) && !mustLegal(t, easy, renamed(list)) {
			t.Errorf("%v is legal in %v, not in %v", list, x, easy)
		}
	}
	plan, _, ok := mustBest(t, x)
	now, _, still := mustBest(t, easy)
	if ok && (!still || len(now) > len(plan)) {
		t.Errorf("plan of %v: %v; of %v: %v", x, plan, easy, now)
	}
}

func asBefore(list []int) []int { return list }

// P2.10: an easier law.
func TestEasier(t *testing.T) {
	forRandomDays(t, func(t *testing.T, r *rand.Rand, x duty.Day) {
		easy := easier(r, x)
		checkEasier(t, x, easy, asBefore)
		for list := range duties(x) {
			before, e := duty.Pay(x, list)
			now, is := duty.Pay(easy, list)
			if e == api.OK && (is != api.OK || now > before) {
				t.Errorf("Pay of %v in %v: %d; in %v: %d, %v", list, x, before, easy, now, is)
			}
		}
	})
}

// easier has each number at least as easy, and narrower ranges.
func easier(r *rand.Rand, x duty.Day) duty.Day {
	easy := cloneDay(x)
	easy.Law.Piece += r.Intn(5)
	easy.Law.Drive += r.Intn(5)
	easy.Law.Spread += r.Intn(5)
	easy.Law.Pieces = min(api.MaxDutyPieces, easy.Law.Pieces+r.Intn(2))
	easy.Law.Break = 1 + r.Intn(easy.Law.Break)
	easy.Law.On = r.Intn(easy.Law.On + 1)
	easy.Law.Off = r.Intn(easy.Law.Off + 1)
	for _, minutes := range easy.Walk {
		for place := range minutes {
			minutes[place] = r.Intn(minutes[place] + 1)
		}
	}
	low, high := anyTruth(r, x), anyTruth(r, x)
	for block, reliefs := range easy.Blocks {
		for number := range reliefs {
			one, other := low[block][number], high[block][number]
			reliefs[number].At = duty.Range{Lo: min(one, other), Hi: max(one, other)}
		}
	}
	return easy
}

// P2.11: one more relief.
func TestReliefMore(t *testing.T) {
	forRandomDays(t, func(t *testing.T, r *rand.Rand, x duty.Day) {
		for cut, s := range segments(x) {
			more := cloneDay(x)
			before, behind := x.Blocks[s.block][s.number].At, x.Blocks[s.block][s.number+1].At
			low := before.Lo + r.Intn(behind.Lo-before.Lo+1)
			from := max(before.Hi, low)
			high := from + r.Intn(behind.Hi-from+1)
			more.Blocks[s.block] = slices.Insert(more.Blocks[s.block], s.number+1, at(low, high, r.Intn(len(x.Walk))))
			checkEasier(t, x, more, func(list []int) []int { return halved(list, cut) })
		}
	})
}

// halved is a duty after the segment cut has become two.
func halved(list []int, cut int) []int {
	var now []int
	for _, number := range list {
		if number > cut {
			number++
		}
		now = append(now, number)
		if number == cut {
			now = append(now, number+1)
		}
	}
	return now
}

// P2.12: all reliefs are so many minutes later.
func TestLater(t *testing.T) {
	forRandomDays(t, func(t *testing.T, r *rand.Rand, x duty.Day) {
		later := cloneDay(x)
		minutes := 1 + r.Intn(api.MaxDutyTime-100)
		for _, block := range later.Blocks {
			for number := range block {
				block[number].At.Lo += minutes
				block[number].At.Hi += minutes
			}
		}
		checkSame(t, x, later, asBefore)
	})
}

// checkSame: the same duties are legal, for the same pay, and best plans have as
// many duties and as much pay.
func checkSame(t *testing.T, x, other duty.Day, renamed func(list []int) []int) {
	t.Helper()
	for list := range duties(x) {
		before, e := duty.Pay(x, list)
		now, is := duty.Pay(other, renamed(list))
		if e != is || before != now || mustLegal(t, x, list) != mustLegal(t, other, renamed(list)) {
			t.Errorf("%v in %v: %d, %v; in %v: %d, %v", list, x, before, e, other, now, is)
		}
	}
	plan, pay, ok := mustBest(t, x)
	now, paid, still := mustBest(t, other)
	if ok != still || len(plan) != len(now) || pay != paid {
		t.Errorf("plan of %v: %v for %d; of %v: %v for %d", x, plan, pay, other, now, paid)
	}
}

// P2.13: blocks in another order.
func TestBlocks(t *testing.T) {
	forRandomDays(t, func(t *testing.T, r *rand.Rand, x duty.Day) {
		order := r.Perm(len(x.Blocks))
		other := cloneDay(x)
		starts := make([]int, len(order))
		start := 0
		for place, block := range order {
			other.Blocks[place] = x.Blocks[block]
			starts[block] = start
			start += len(x.Blocks[block]) - 1
		}
		numbered := segments(x)
		checkSame(t, x, other, func(list []int) []int {
			var now []int
			for _, number := range list {
				now = append(now, starts[numbered[number].block]+numbered[number].number)
			}
			slices.Sort(now)
			return now
		})
	})
}
