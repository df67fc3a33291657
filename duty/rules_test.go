package duty_test

import (
	"math"
	"math/rand"
	"slices"
	"testing"

	"layover/api"
	"layover/duty"
)

// calls has all calls with one argument of each sort.
type calls struct {
	day     duty.Day
	duty    []int
	times   [][]int
	plan    [][]int
	weights []int
}

// results has what all calls return.
type results struct {
	lists   [][]int
	numbers []int
	work    duty.Work
	answers []bool
	errors  []api.Errno
}

func (c calls) make() results {
	legal, e1 := duty.Legal(c.day, c.duty)
	pay, e2 := duty.Pay(c.day, c.duty)
	work, e3 := duty.Do(c.day, c.duty, c.times)
	plan, whole, e4 := duty.Best(c.day)
	barred, e5 := duty.Barred(c.day)
	bound, e6 := duty.Bound(c.day, c.weights)
	return results{
		append(slices.Clone(plan), barred, work.Breaks),
		[]int{pay, whole, bound},
		work,
		[]bool{legal, duty.ProvePlan(c.day, c.plan)},
		[]api.Errno{duty.CheckDay(c.day), e1, e2, e3, e4, e5, e6},
	}
}

func (a results) same(b results) bool {
	return sameAll(a.lists, b.lists) && slices.Equal(a.numbers, b.numbers) && sameWork(a.work, b.work) &&
		slices.Equal(a.answers, b.answers) && slices.Equal(a.errors, b.errors)
}

func (c calls) clone() calls {
	return calls{cloneDay(c.day), slices.Clone(c.duty), cloneAll(c.times), cloneAll(c.plan), slices.Clone(c.weights)}
}

func (c calls) same(d calls) bool {
	return sameDay(c.day, d.day) && slices.Equal(c.duty, d.duty) && sameAll(c.times, d.times) &&
		sameAll(c.plan, d.plan) && slices.Equal(c.weights, d.weights)
}

func validCalls(r *rand.Rand, x duty.Day) calls {
	c := calls{day: x, duty: anyDuty(r, x), times: anyTruth(r, x), weights: randomWeights(r, x)}
	c.plan, _, _ = duty.Best(x)
	return c
}

// The rules: the same arguments lead to the same results.
func TestSameAgain(t *testing.T) {
	forRandomDays(t, func(t *testing.T, r *rand.Rand, x duty.Day) {
		c := validCalls(r, x)
		if first := c.make(); !first.same(c.clone().make()) {
			t.Errorf("calls of %v differ", c)
		}
	})
}

// R4: no call changes an argument, and no result shares memory.
func TestMemory(t *testing.T) {
	forRandomDays(t, func(t *testing.T, r *rand.Rand, x duty.Day) {
		c := validCalls(r, x)
		before := c.clone()
		got := c.make()
		if !c.same(before) {
			t.Fatalf("the arguments %v have become %v", before, c)
		}
		for number, list := range got.lists {
			for place := range list {
				list[place] = -100 - number
			}
			// What is written behind a list must not be in another one.
			_ = append(list, -1000, -1000, -1000, -1000)
		}
		for number, list := range got.lists {
			if slices.ContainsFunc(list, func(n int) bool { return n != -100-number }) {
				t.Fatalf("two results of %v share memory", before)
			}
		}
		if !c.same(before) || !c.make().same(before.make()) {
			t.Fatalf("the results share memory with the arguments %v", before)
		}
	})
}

// R3: a list without elements may be nil.
func TestNil(t *testing.T) {
	empty, none := []int{}, [][]int{}
	day := easyDay()
	day.Blocks = [][]duty.Relief{}
	if !(calls{day: easyDay()}).make().same(calls{day, empty, none, none, empty}.make()) {
		t.Error("no blocks: nil and an empty list differ")
	}
	nils := calls{day: example(), times: [][]int{nil, nil}, plan: [][]int{nil}}
	if !nils.make().same(calls{example(), empty, [][]int{{}, {}}, [][]int{{}}, empty}.make()) {
		t.Error("example: nil and an empty list differ")
	}
	other := example()
	other.Blocks[1], other.Walk[1] = []duty.Relief{}, empty
	same := example()
	same.Blocks[1], same.Walk[1] = nil, nil
	if !(calls{day: same}).make().same(calls{day: other}.make()) {
		t.Error("not valid: nil and an empty list differ")
	}
}

// R1, R2: the day is asked first, then the duty, then the rest.
func TestErrorOrder(t *testing.T) {
	long, wrong := example(), example()
	long.Law.Break, long.Walk = 0, square(6)
	wrong.Law.Break = 0
	for _, x := range []struct {
		c    calls
		want [3]api.Errno // of Pay, Do and Bound
	}{
		{calls{day: long}, [3]api.Errno{api.ErrLimit, api.ErrLimit, api.ErrLimit}},
		{calls{day: wrong}, [3]api.Errno{api.ErrArg, api.ErrArg, api.ErrArg}},
		{calls{day: example()}, [3]api.Errno{api.ErrRange, api.ErrRange, api.ErrRange}},
		{calls{day: example(), duty: []int{0, 1}}, [3]api.Errno{api.ErrLaw, api.ErrRange, api.ErrRange}},
		{calls{day: example(), duty: []int{1, 0}}, [3]api.Errno{api.ErrRange, api.ErrRange, api.ErrRange}},
		{calls{day: example(), weights: []int{1000, 0, 1000, 0, -1}}, [3]api.Errno{api.ErrRange, api.ErrRange, api.ErrRange}},
		{calls{day: example(), weights: []int{1000, 0, 1000, 0, 0}}, [3]api.Errno{api.ErrRange, api.ErrRange, api.ErrFail}},
	} {
		got := x.c.make()
		if e := [3]api.Errno{got.errors[2], got.errors[3], got.errors[6]}; e != x.want {
			t.Errorf("errors of %v: %v, not %v", x.c, e, x.want)
		}
		if got.numbers[0] != 0 || got.numbers[2] != 0 || !sameWork(got.work, duty.Work{}) {
			t.Errorf("beside the errors of %v: %v", x.c, got)
		}
	}
}

// P1, R5: no arguments make a call panic, however odd they are.
func TestOddArguments(t *testing.T) {
	r := rand.New(rand.NewSource(5))
	for range 10000 {
		c := calls{oddDay(r), oddList(r), oddLists(r), oddLists(r), oddList(r)}
		got := c.make()
		want := got.errors[0]
		for _, e := range got.errors[1:] {
			if want != api.OK && e != want {
				t.Fatalf("errors of %v: %v", c, got.errors)
			}
		}
		zero := results{lists: [][]int{nil, nil}, numbers: make([]int, 3), answers: make([]bool, 2), errors: got.errors}
		if want != api.OK && !got.same(zero) {
			t.Fatalf("results of %v: %v", c, got)
		}
	}
}

func odd(r *rand.Rand) int {
	numbers := []int{0, 0, 0, 1, 1, 1, 2, 3, 5, 10, 3000, 3001, 1000000, -1, math.MaxInt, math.MinInt, math.MaxInt - 1, 1 << 32, 64}
	return numbers[r.Intn(len(numbers))]
}

func oddList(r *rand.Rand) []int {
	var list []int
	for range r.Intn(5) {
		list = append(list, odd(r))
	}
	return list
}

func oddLists(r *rand.Rand) [][]int {
	var lists [][]int
	for range r.Intn(4) {
		lists = append(lists, oddList(r))
	}
	return lists
}

// oddDay is a valid day, with one or two things changed.
func oddDay(r *rand.Rand) duty.Day {
	x := randomDay(r, r.Intn(5))
	for range r.Intn(3) {
		switch r.Intn(7) {
		case 0:
			x.Law.Piece, x.Law.Spread = odd(r), odd(r)
		case 1:
			x.Law = duty.Law{Piece: odd(r), Drive: odd(r), Spread: odd(r), Break: odd(r), On: odd(r), Off: odd(r), Least: odd(r), Pieces: odd(r)}
		case 2:
			x.Walk = oddLists(r)
		case 3:
			x.Walk = append(x.Walk, oddList(r))
		case 4:
			x.Blocks = append(x.Blocks, []duty.Relief{at(odd(r), odd(r), odd(r)), at(odd(r), odd(r), odd(r))})
		case 5:
			x.Blocks = append(x.Blocks, make([]duty.Relief, r.Intn(13)))
		case 6:
			x.Blocks = append(x.Blocks, blocks(r.Intn(4), 2)...)
		}
	}
	return x
}

// P1, P2.3: a day as large as it may be.
func TestLargest(t *testing.T) {
	x := easyDay(exact(0, 9, 20, 29), exact(0, 9), exact(30, 39, 50), exact(50, 59), exact(61, 70, 81), exact(0, 3000))
	for name, change := range map[string]func(l *duty.Law){
		"easy":       func(l *duty.Law) {},
		"no piece":   func(l *duty.Law) { l.Piece = 0 },
		"one piece":  func(l *duty.Law) { l.Pieces = 1 },
		"long break": func(l *duty.Law) { l.Break = 11 },
	} {
		change(&x.Law)
		many, pay, there := fewest(x)
		plan, n, ok := mustBest(t, x)
		if len(plan) != many || n != pay || ok != there {
			t.Errorf("%s: Best: %v, %d, %v; not %d duties for %d, %v", name, plan, n, ok, many, pay, there)
		}
		x = easyDay(x.Blocks...)
	}
}

// The word and the number of an error.
func TestErrno(t *testing.T) {
	for e, want := range map[api.Errno]string{api.ErrNone: "stop 7", api.ErrFail: "stop 9", api.ErrLaw: "stop 10"} {
		if e.Error() != want {
			t.Errorf("%q, not %q", e.Error(), want)
		}
	}
}
