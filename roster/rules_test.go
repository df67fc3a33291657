package roster_test

import (
	"math"
	"math/rand"
	"slices"
	"testing"

	"layover/api"
	"layover/roster"
)

// calls has all calls with one argument of each sort.
type calls struct {
	week         roster.Week
	list, truth  []int
	covers, duty int
}

// results has what all calls return.
type results struct {
	breaches []roster.Breach
	lists    [][]int
	covers   int
	proved   bool
	errors   []api.Errno
}

func (c calls) make() results {
	breaches, e1 := roster.Breaks(c.week, c.list, c.truth)
	best, grants, e2 := roster.Best(c.week)
	most, many, e3 := roster.Most(c.week)
	drivers, e4 := roster.Spares(c.week, c.list, c.duty)
	return results{
		breaches, [][]int{best, grants, most, drivers}, many,
		roster.ProveRoster(c.week, c.list, c.covers),
		[]api.Errno{roster.CheckWeek(c.week), e1, e2, e3, e4},
	}
}

func (a results) same(b results) bool {
	return slices.Equal(a.breaches, b.breaches) && slices.EqualFunc(a.lists, b.lists, slices.Equal[[]int]) &&
		a.covers == b.covers && a.proved == b.proved && slices.Equal(a.errors, b.errors)
}

func (c calls) clone() calls {
	return calls{cloneWeek(c.week), slices.Clone(c.list), slices.Clone(c.truth), c.covers, c.duty}
}

func (c calls) same(d calls) bool {
	return sameWeek(c.week, d.week) && slices.Equal(c.list, d.list) && slices.Equal(c.truth, d.truth)
}

func validCalls(r *rand.Rand, x roster.Week) calls {
	c := calls{week: x, list: anyRoster(r, x), truth: anyTruth(r, x), covers: r.Intn(4)}
	if list, _, e := roster.Best(x); e == api.OK && r.Intn(2) == 0 {
		c.list = list
	}
	if len(x.Duties) > 0 {
		c.duty = r.Intn(len(x.Duties))
	}
	return c
}

// The rules: the same arguments lead to the same results.
func TestSameAgain(t *testing.T) {
	forRandomWeeks(t, func(t *testing.T, r *rand.Rand, x roster.Week) {
		c := validCalls(r, x)
		if first := c.make(); !first.same(c.clone().make()) {
			t.Errorf("calls of %v differ", c)
		}
	})
}

// R4: no call changes an argument, and no result shares memory.
func TestMemory(t *testing.T) {
	forRandomWeeks(t, func(t *testing.T, r *rand.Rand, x roster.Week) {
		c := validCalls(r, x)
		before := c.clone()
		got := c.make()
		if !c.same(before) {
			t.Fatalf("the arguments %v have become %v", before, c)
		}
		for number, list := range got.lists {
			for place := range list {
				list[place] = -100 - number
			}
			// What is written behind a list must not be in another one.
			_ = append(list, -1000, -1000, -1000, -1000)
		}
		clear(got.breaches)
		for number, list := range got.lists {
			if slices.ContainsFunc(list, func(n int) bool { return n != -100-number }) {
				t.Fatalf("two results of %v share memory", before)
			}
		}
		if !c.same(before) || !c.make().same(before.make()) {
			t.Fatalf("the results share memory with the arguments %v", before)
		}
	})
}

// R3: a list without elements may be nil.
func TestNil(t *testing.T) {
	empty := []int{}
	full := roster.Week{Days: 2, Run: 1, Duties: []roster.Duty{}, Drivers: []roster.Driver{}}
	if !(calls{week: roster.Week{Days: 2, Run: 1}}).make().same(calls{week: full, list: empty, truth: empty}.make()) {
		t.Error("no duties, no drivers: nil and an empty list differ")
	}
	nils, empties := example(), example()
	for number := range nils.Drivers {
		d, o := &nils.Drivers[number], &empties.Drivers[number]
		d.Leave, d.Wish = nil, nil
		o.Leave, o.Wish = []int{}, []int{}
	}
	nils.Drivers[2].Knows, empties.Drivers[2].Knows = nil, []int{}
	list, truth := []int{0, -1, 1, 0}, latest(nils)
	if !(calls{nils, list, truth, 2, 1}).make().same(calls{empties, list, truth, 2, 1}.make()) {
		t.Error("example: nil and an empty list differ")
	}
	if !(calls{week: example()}).make().same(calls{week: example(), list: empty, truth: empty}.make()) {
		t.Error("not valid: nil and an empty list differ")
	}
}

// R1, R2: the week is asked first, its limits before all, then the roster, then
// the rest.
func TestErrorOrder(t *testing.T) {
	long := exampleBy(func(x *roster.Week) { x.Days, x.Drivers = 0, make([]roster.Driver, 7) })
	wrong := exampleBy(func(x *roster.Week) { x.Days = 0 })
	full := exampleBy(func(x *roster.Week) { x.Hours = 0 })
	list, truth := []int{0, 2, 1, 0}, latest(example())
	ok, limit, arg, rng, fail := api.OK, api.ErrLimit, api.ErrArg, api.ErrRange, api.ErrFail
	for _, x := range []struct {
		c    calls
		want []api.Errno // of CheckWeek, Breaks, Best, Most and Spares
	}{
		{calls{long, list, truth, 0, 0}, []api.Errno{limit, limit, limit, limit, limit}},
		{calls{long, nil, nil, 0, -1}, []api.Errno{limit, limit, limit, limit, limit}},
		{calls{wrong, list, truth, 0, 0}, []api.Errno{arg, arg, arg, arg, arg}},
		{calls{wrong, nil, nil, 0, -1}, []api.Errno{arg, arg, arg, arg, arg}},
		{calls{example(), list, truth, 0, 0}, []api.Errno{ok, ok, ok, ok, ok}},
		{calls{example(), nil, truth, 0, 0}, []api.Errno{ok, rng, ok, ok, rng}},
		{calls{example(), list, nil, 0, 0}, []api.Errno{ok, rng, ok, ok, ok}},
		{calls{example(), list, truth, 0, 4}, []api.Errno{ok, ok, ok, ok, rng}},
		{calls{full, list, truth, 0, 0}, []api.Errno{ok, ok, fail, ok, ok}},
	} {
		got := x.c.make()
		if !slices.Equal(got.errors, x.want) {
			t.Errorf("errors of %v: %v, not %v", x.c, got.errors, x.want)
		}
		for number, list := range [][]int{got.lists[0], got.lists[1], got.lists[2], got.lists[3]} {
			if e := []api.Errno{got.errors[2], got.errors[2], got.errors[3], got.errors[4]}[number]; e != ok && list != nil {
				t.Errorf("beside the errors of %v: %v", x.c, got)
			}
		}
		if got.errors[1] != ok && got.breaches != nil || got.errors[3] != ok && got.covers != 0 {
			t.Errorf("beside the errors of %v: %v", x.c, got)
		}
	}
}

// P1, R5: no arguments make a call panic, however odd they are.
func TestOddArguments(t *testing.T) {
	r := rand.New(rand.NewSource(5))
	valid := 0
	for range 10000 {
		c := calls{oddWeek(r), oddList(r), oddList(r), odd(r), odd(r)}
		got := c.make()
		want := got.errors[0]
		if want == api.OK {
			valid++
			continue
		}
		zero := results{lists: make([][]int, 4), errors: []api.Errno{want, want, want, want, want}}
		if !got.same(zero) {
			t.Fatalf("results of %v: %v", c, got)
		}
	}
	if valid < 1000 || valid > 9000 {
		t.Errorf("%d weeks were valid", valid)
	}
}

func odd(r *rand.Rand) int {
	numbers := []int{0, 0, 0, 0, 1, 1, 1, 2, 3, 5, 14, 15, 1440, 3001, 20000, -1, -10081, math.MaxInt, math.MinInt, math.MaxInt - 1, 1 << 32}
	return numbers[r.Intn(len(numbers))]
}

func oddList(r *rand.Rand) []int {
	var list []int
	for range r.Intn(5) {
		list = append(list, odd(r))
	}
	return list
}

// oddWeek is a valid week, with one or two things changed.
func oddWeek(r *rand.Rand) roster.Week {
	x := randomWeek(r, r.Intn(5), r.Intn(5))
	for range r.Intn(3) {
		switch r.Intn(7) {
		case 0:
			x.Days = odd(r)
		case 1:
			x.Rest, x.Run, x.Hours = odd(r), odd(r), odd(r)
		case 2:
			x.Duties = append(x.Duties, duty(odd(r), odd(r), odd(r), odd(r), odd(r)))
		case 3:
			x.Duties = append(x.Duties, make([]roster.Duty, r.Intn(14))...)
		case 4:
			x.Drivers = append(x.Drivers, roster.Driver{Knows: oddList(r), Leave: oddList(r), Wish: oddList(r)})
		case 5:
			x.Drivers = append(x.Drivers, roster.Driver{Off: odd(r), Row: odd(r), Used: odd(r)})
		case 6:
			x.Drivers = append(x.Drivers, make([]roster.Driver, r.Intn(6))...)
		}
	}
	return x
}

// R8: the kinds have the numbers of the chapter.
func TestKinds(t *testing.T) {
	kinds := []uint8{roster.Unknown, roster.Away, roster.Double, roster.Tired, roster.Row, roster.Long}
	if !slices.Equal(kinds, []uint8{0, 1, 2, 3, 4, 5}) || roster.Nobody != -1 {
		t.Errorf("kinds %v, Nobody %d", kinds, roster.Nobody)
	}
}
