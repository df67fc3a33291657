package charge_test

import (
	"math"
	"math/rand"
	"slices"
	"testing"

	"layover/api"
	"layover/charge"
)

// calls has all calls with one argument of each sort.
type calls struct {
	garage             charge.Garage
	plan               [][]int
	truth              charge.Truth
	worths, surcharges []int
}

// results has what all calls return.
type results struct {
	lists, plan [][]int
	numbers     []int
	errors      []api.Errno
}

func (c calls) make() results {
	needs, e1 := charge.Needs(c.garage)
	sum, e2 := charge.Cost(c.garage, c.plan)
	out, left, paid, e3 := charge.Play(c.garage, c.plan, c.truth)
	plan, least, e4 := charge.Best(c.garage)
	bound, e5 := charge.Bound(c.garage, c.worths, c.surcharges)
	worths, surcharges, e6 := charge.Proof(c.garage)
	buses, lack, e7 := charge.Lack(c.garage)
	return results{
		[][]int{needs, out, left, worths, surcharges, buses}, plan,
		[]int{sum, paid, least, bound, lack},
		[]api.Errno{charge.CheckGarage(c.garage), e1, e2, e3, e4, e5, e6, e7},
	}
}

func (a results) same(b results) bool {
	return sameLists(a.lists, b.lists) && sameLists(a.plan, b.plan) && slices.Equal(a.numbers, b.numbers) && slices.Equal(a.errors, b.errors)
}

func (c calls) clone() calls {
	return calls{cloneGarage(c.garage), cloneLists(c.plan), cloneTruth(c.truth), slices.Clone(c.worths), slices.Clone(c.surcharges)}
}

func (c calls) same(d calls) bool {
	return sameGarage(c.garage, d.garage) && sameLists(c.plan, d.plan) && sameTruth(c.truth, d.truth) &&
		slices.Equal(c.worths, d.worths) && slices.Equal(c.surcharges, d.surcharges)
}

// anyCalls has arguments of which all are valid, but for a plan, if there is none.
func anyCalls(r *rand.Rand, x charge.Garage) calls {
	c := calls{garage: x, truth: anyTruth(r, x)}
	c.plan, _ = anyPlan(r, x)
	c.worths, c.surcharges = anyWorths(r, x)
	return c
}

// The rules: the same arguments lead to the same results.
func TestSameAgain(t *testing.T) {
	check := func(t *testing.T, r *rand.Rand, x charge.Garage) {
		c := anyCalls(r, x)
		first := c.make()
		for range 3 {
			if !first.same(c.clone().make()) {
				t.Errorf("calls of %v differ", c)
			}
		}
	}
	forRandomGarages(t, check)
	forLargeGarages(t, check)
}

// R4: no call changes an argument, and no result shares memory.
func TestMemory(t *testing.T) {
	forRandomGarages(t, func(t *testing.T, r *rand.Rand, x charge.Garage) {
		c := anyCalls(r, x)
		before := c.clone()
		got := c.make()
		if !c.same(before) {
			t.Fatalf("the arguments %v have become %v", before, c)
		}
		all := slices.Concat(got.lists, got.plan)
		for number, list := range all {
			for place := range list {
				list[place] = -100 - number
			}
			// What is written behind a list must not be in another one.
			_ = append(list, -1000, -1000, -1000, -1000)
		}
		for number, list := range all {
			if slices.ContainsFunc(list, func(n int) bool { return n != -100-number }) {
				t.Fatalf("two results of %v share memory", before)
			}
		}
		if !c.same(before) || !c.make().same(before.make()) {
			t.Fatalf("the results share memory with the arguments %v", before)
		}
	})
}

// R3: a list without elements may be nil.
func TestNil(t *testing.T) {
	empty := []int{}
	none := charge.Truth{Home: empty, Use: empty}
	for _, x := range []struct{ nils, empties calls }{
		{calls{}, calls{charge.Garage{Slots: []charge.Slot{}, Buses: []charge.Bus{}}, [][]int{}, none, empty, empty}},
		{
			calls{garage: garage(nil, bus(0, 3, 5, 0)), plan: [][]int{nil}, truth: charge.Truth{Home: []int{0}, Use: []int{0}}, worths: []int{3}},
			calls{garage([]charge.Slot{}, bus(0, 3, 5, 0)), [][]int{{}}, charge.Truth{Home: []int{0}, Use: []int{0}}, []int{3}, empty},
		},
		{
			calls{garage: garage(slots(5, 1, 2)), surcharges: []int{0, 3}},
			calls{charge.Garage{Slots: slots(5, 1, 2), Buses: []charge.Bus{}}, [][]int{}, none, empty, []int{0, 3}},
		},
		{calls{garage: example()}, calls{example(), [][]int{}, none, empty, empty}},
		{calls{garage: example(), plan: [][]int{nil, nil}}, calls{example(), [][]int{{}, {}}, none, empty, empty}},
	} {
		if !x.nils.make().same(x.empties.make()) {
			t.Errorf("%v: nil and an empty list differ", x.nils)
		}
	}
}

// R1, R2: the garage is asked first, its limits before all, then the rest.
func TestErrorOrder(t *testing.T) {
	long := exampleBy(func(x *charge.Garage) { x.Slots, x.Buses[0].Rate = make([]charge.Slot, 13), -1 })
	wrong := exampleBy(func(x *charge.Garage) { x.Buses[0].Rate = -1 })
	little := exampleBy(func(x *charge.Garage) { x.Slots[1].Power = 1 })
	ok, limit, arg, rng, none, fail := api.OK, api.ErrLimit, api.ErrArg, api.ErrRange, api.ErrNone, api.ErrFail
	worths, surcharges := []int{3, 2}, []int{0, 1, 0}
	for _, x := range []struct {
		c    calls
		want []api.Errno // of CheckGarage, Needs, Cost, Play, Best, Bound, Proof and Lack
	}{
		{calls{long, examplePlan(), exampleTruth(), worths, surcharges}, []api.Errno{limit, limit, limit, limit, limit, limit, limit, limit}},
		{calls{garage: long}, []api.Errno{limit, limit, limit, limit, limit, limit, limit, limit}},
		{calls{wrong, examplePlan(), exampleTruth(), worths, surcharges}, []api.Errno{arg, arg, arg, arg, arg, arg, arg, arg}},
		{calls{garage: wrong}, []api.Errno{arg, arg, arg, arg, arg, arg, arg, arg}},
		{calls{example(), examplePlan(), exampleTruth(), worths, surcharges}, []api.Errno{ok, ok, ok, ok, ok, ok, ok, none}},
		{calls{example(), examplePlan(), charge.Truth{}, worths, surcharges}, []api.Errno{ok, ok, ok, rng, ok, ok, ok, none}},
		{calls{example(), nil, exampleTruth(), worths, nil}, []api.Errno{ok, ok, rng, rng, ok, rng, ok, none}},
		{calls{example(), examplePlan(), exampleTruth(), nil, surcharges}, []api.Errno{ok, ok, ok, ok, ok, rng, ok, none}},
		{calls{little, examplePlan(), exampleTruth(), worths, surcharges}, []api.Errno{ok, ok, rng, rng, fail, ok, fail, ok}},
	} {
		got := x.c.make()
		if !slices.Equal(got.errors, x.want) {
			t.Errorf("errors of %v: %v, not %v", x.c, got.errors, x.want)
		}
		checkBeside(t, x.c, got)
	}
}

// checkBeside: beside an error all other results are zero values (R2).
func checkBeside(t *testing.T, c calls, got results) {
	t.Helper()
	e, lists, numbers := got.errors, got.lists, got.numbers
	if e[1] != api.OK && lists[0] != nil || e[2] != api.OK && numbers[0] != 0 ||
		e[3] != api.OK && (lists[1] != nil || lists[2] != nil || numbers[1] != 0) ||
		e[4] != api.OK && (got.plan != nil || numbers[2] != 0) || e[5] != api.OK && numbers[3] != 0 ||
		e[6] != api.OK && (lists[3] != nil || lists[4] != nil) || e[7] != api.OK && (lists[5] != nil || numbers[4] != 0) {
		t.Errorf("beside the errors of %v: %v", c, got)
	}
}

// P1, R5: no arguments make a call panic, however odd they are.
func TestOddArguments(t *testing.T) {
	r := rand.New(rand.NewSource(6))
	valid, played := 0, 0
	for range 20000 {
		c := oddCalls(r)
		got := c.make()
		checkBeside(t, c, got)
		if got.errors[0] == api.OK {
			valid++
			if got.errors[3] == api.OK {
				played++
			}
			continue
		}
		for _, e := range got.errors {
			if e != got.errors[0] {
				t.Fatalf("results of %v: %v", c, got)
			}
		}
	}
	if valid < 4000 || valid > 16000 || played < 500 || played > valid/2 {
		t.Errorf("%d garages were valid, %d were played", valid, played)
	}
}

// oddCalls has arguments for a garage, with one or two of them changed.
func oddCalls(r *rand.Rand) calls {
	c := calls{garage: oddGarage(r)}
	if charge.CheckGarage(c.garage) == api.OK {
		c = anyCalls(r, c.garage)
	}
	for range r.Intn(3) {
		switch r.Intn(5) {
		case 0:
			c.plan = append(c.plan, oddList(r))
		case 1:
			if len(c.plan) > 0 {
				c.plan[r.Intn(len(c.plan))] = oddList(r)
			}
		case 2:
			c.truth = charge.Truth{Home: oddList(r), Use: oddList(r)}
		case 3:
			c.worths = oddList(r)
		case 4:
			c.surcharges = oddList(r)
		}
	}
	return c
}

func odd(r *rand.Rand) int {
	numbers := []int{0, 0, 0, 0, 1, 1, 1, 2, 2, 3, 4, 12, 13, 1000, 1001, 100000, 100001, -1, math.MaxInt, math.MinInt, 1 << 32}
	return numbers[r.Intn(len(numbers))]
}

func oddList(r *rand.Rand) []int {
	var list []int
	for range r.Intn(4) {
		list = append(list, odd(r))
	}
	return list
}

// oddGarage is a valid garage, with one or two things changed.
func oddGarage(r *rand.Rand) charge.Garage {
	x := randomGarage(r, r.Intn(4), r.Intn(4))
	for range r.Intn(3) {
		switch r.Intn(5) {
		case 0:
			x.Slots = append(x.Slots, charge.Slot{Power: odd(r), Price: odd(r)})
		case 1:
			x.Buses = append(x.Buses, charge.Bus{odd(r), odd(r), odd(r), odd(r), odd(r), to(odd(r), odd(r)), to(odd(r), odd(r))})
		case 2:
			x.Slots = append(x.Slots, make([]charge.Slot, r.Intn(13))...)
		case 3:
			x.Buses = append(x.Buses, make([]charge.Bus, r.Intn(5))...)
		case 4:
			if len(x.Buses) > 0 {
				b := &x.Buses[r.Intn(len(x.Buses))]
				*[]*int{&b.From, &b.To, &b.Rate, &b.Full, &b.Floor, &b.Home.Lo, &b.Home.Hi, &b.Use.Lo, &b.Use.Hi}[r.Intn(9)] = odd(r)
			}
		}
	}
	return x
}
