package lane_test

import (
	"math"
	"math/rand"
	"slices"
	"testing"

	"layover/api"
	"layover/lane"
)

// calls has all calls with one argument of each sort.
type calls struct {
	yard                 lane.Yard
	lanes, order, broken []int
}

// results has what all calls return.
type results struct {
	lists, told  [][]int
	worst, least int
	proved       bool
	errors       []api.Errno
}

func (c calls) make() results {
	shunts, e1 := lane.Shunts(c.yard, c.lanes, c.order, c.broken)
	told, e2 := lane.Morning(c.yard, c.lanes, c.order, c.broken)
	order, broken, worst, e3 := lane.Worst(c.yard, c.lanes)
	lanes, least, e4 := lane.Best(c.yard)
	return results{
		[][]int{shunts, order, broken, lanes}, told, worst, least,
		lane.ProveOrder(c.yard, c.order),
		[]api.Errno{lane.CheckYard(c.yard), e1, e2, e3, e4},
	}
}

func (a results) same(b results) bool {
	return slices.EqualFunc(a.lists, b.lists, slices.Equal[[]int]) && slices.EqualFunc(a.told, b.told, slices.Equal[[]int]) &&
		a.worst == b.worst && a.least == b.least && a.proved == b.proved && slices.Equal(a.errors, b.errors)
}

func (c calls) clone() calls {
	return calls{cloneYard(c.yard), slices.Clone(c.lanes), slices.Clone(c.order), slices.Clone(c.broken)}
}

func (c calls) same(d calls) bool {
	return sameYard(c.yard, d.yard) && slices.Equal(c.lanes, d.lanes) && slices.Equal(c.order, d.order) && slices.Equal(c.broken, d.broken)
}

// The rules: the same arguments lead to the same results.
func TestSameAgain(t *testing.T) {
	forRandomNights(t, func(t *testing.T, r *rand.Rand, n night) {
		c := calls(n)
		if first := c.make(); !first.same(c.clone().make()) {
			t.Errorf("calls of %v differ", c)
		}
	})
}

// R4: no call changes an argument, and no result shares memory.
func TestMemory(t *testing.T) {
	forRandomNights(t, func(t *testing.T, r *rand.Rand, n night) {
		c := calls(n)
		before := c.clone()
		got := c.make()
		if !c.same(before) {
			t.Fatalf("the arguments %v have become %v", before, c)
		}
		all := slices.Concat(got.lists, got.told)
		for number, list := range all {
			for place := range list {
				list[place] = -100 - number
			}
			// What is written behind a list must not be in another one.
			_ = append(list, -1000, -1000, -1000, -1000)
		}
		for number, list := range all {
			if slices.ContainsFunc(list, func(n int) bool { return n != -100-number }) {
				t.Fatalf("two results of %v share memory", before)
			}
		}
		if !c.same(before) || !c.make().same(before.make()) {
			t.Fatalf("the results share memory with the arguments %v", before)
		}
	})
}

// R3: a list without elements may be nil.
func TestNil(t *testing.T) {
	empty := []int{}
	for _, room := range [][]int{{0}, {8, 0, 1}} {
		nils, empties := lane.Yard{Room: room}, lane.Yard{Room: room, Buses: []lane.Bus{}}
		if !(calls{yard: nils}).make().same(calls{empties, empty, empty, empty}.make()) {
			t.Errorf("Room %v: nil and an empty list differ", room)
		}
	}
	if !(calls{}).make().same(calls{lane.Yard{Room: empty, Buses: []lane.Bus{}}, empty, empty, empty}.make()) {
		t.Error("no lanes: nil and an empty list differ")
	}
	lanes, order := []int{0, 0, 1, 1}, []int{0, 1, 2, 3}
	for _, c := range []calls{{example(), lanes, order, nil}, {example(), lanes, nil, nil}, {example(), nil, order, nil}} {
		with := c
		for _, list := range []*[]int{&with.lanes, &with.order, &with.broken} {
			if *list == nil {
				*list = empty
			}
		}
		if !c.make().same(with.make()) {
			t.Errorf("%v: nil and an empty list differ", c)
		}
	}
}

// R1, R2: the yard is asked first, its limits before all, then the rest.
func TestErrorOrder(t *testing.T) {
	long := exampleBy(func(x *lane.Yard) { x.Room, x.Broken = make([]int, 4), -1 })
	wrong := exampleBy(func(x *lane.Yard) { x.Broken = -1 })
	full := exampleBy(func(x *lane.Yard) { x.Room = []int{2, 1} })
	lanes, order := []int{0, 0, 1, 1}, []int{0, 1, 2, 3}
	ok, limit, arg, rng, fail := api.OK, api.ErrLimit, api.ErrArg, api.ErrRange, api.ErrFail
	for _, x := range []struct {
		c    calls
		want []api.Errno // of CheckYard, Shunts, Morning, Worst and Best
	}{
		{calls{long, lanes, order, nil}, []api.Errno{limit, limit, limit, limit, limit}},
		{calls{long, nil, nil, order}, []api.Errno{limit, limit, limit, limit, limit}},
		{calls{wrong, lanes, order, nil}, []api.Errno{arg, arg, arg, arg, arg}},
		{calls{wrong, nil, nil, order}, []api.Errno{arg, arg, arg, arg, arg}},
		{calls{example(), lanes, order, nil}, []api.Errno{ok, ok, ok, ok, ok}},
		{calls{example(), nil, order, nil}, []api.Errno{ok, rng, rng, rng, ok}},
		{calls{example(), lanes, nil, nil}, []api.Errno{ok, rng, rng, ok, ok}},
		{calls{example(), lanes, order, []int{0}}, []api.Errno{ok, rng, rng, ok, ok}},
		{calls{full, lanes, order, nil}, []api.Errno{ok, rng, rng, rng, fail}},
	} {
		got := x.c.make()
		if !slices.Equal(got.errors, x.want) {
			t.Errorf("errors of %v: %v, not %v", x.c, got.errors, x.want)
		}
		checkBeside(t, x.c, got)
	}
}

// checkBeside: beside an error all other results are zero values (R2).
func checkBeside(t *testing.T, c calls, got results) {
	t.Helper()
	shunts, order, broken, lanes := got.lists[0], got.lists[1], got.lists[2], got.lists[3]
	if got.errors[1] != api.OK && shunts != nil || got.errors[2] != api.OK && got.told != nil ||
		got.errors[3] != api.OK && (order != nil || broken != nil || got.worst != 0) || got.errors[4] != api.OK && (lanes != nil || got.least != 0) {
		t.Errorf("beside the errors of %v: %v", c, got)
	}
}

// P1, R5: no arguments make a call panic, however odd they are.
func TestOddArguments(t *testing.T) {
	r := rand.New(rand.NewSource(5))
	valid, shunted := 0, 0
	for range 20000 {
		c := oddCalls(r)
		got := c.make()
		checkBeside(t, c, got)
		if got.errors[0] == api.OK {
			valid++
			if got.errors[1] == api.OK {
				shunted++
			}
			continue
		}
		for _, e := range got.errors {
			if e != got.errors[0] || got.proved {
				t.Fatalf("results of %v: %v", c, got)
			}
		}
	}
	if valid < 5000 || valid > 15000 || shunted < 500 || shunted > valid/2 {
		t.Errorf("%d yards were valid, %d had shunts", valid, shunted)
	}
}

// oddCalls has lists for a yard, with one or two of them changed.
func oddCalls(r *rand.Rand) calls {
	c := calls{yard: oddYard(r)}
	if lane.CheckYard(c.yard) == api.OK {
		c.lanes, _ = anyLanes(r, c.yard)
		c.order, c.broken = anyOrder(r, c.yard), anyBroken(r, c.yard)
	}
	for range r.Intn(3) {
		*[]*[]int{&c.lanes, &c.order, &c.broken}[r.Intn(3)] = oddList(r)
	}
	return c
}

func odd(r *rand.Rand) int {
	numbers := []int{0, 0, 0, 0, 0, 1, 1, 1, 2, 2, 3, 4, 7, 8, 9, 2000, 2001, -1, math.MaxInt, math.MinInt, 1 << 32}
	return numbers[r.Intn(len(numbers))]
}

func oddList(r *rand.Rand) []int {
	if r.Intn(3) == 0 {
		return r.Perm(r.Intn(4))
	}
	var list []int
	for range r.Intn(4) {
		list = append(list, odd(r))
	}
	return list
}

// oddYard is a valid yard, with one or two things changed.
func oddYard(r *rand.Rand) lane.Yard {
	x := randomYard(r, 1+r.Intn(3), r.Intn(4))
	for range r.Intn(3) {
		switch r.Intn(5) {
		case 0:
			x.Room = append(x.Room, odd(r))
		case 1:
			x.Buses = append(x.Buses, bus(odd(r), odd(r), odd(r)))
		case 2:
			x.Broken = odd(r)
		case 3:
			x.Room = oddList(r)
		case 4:
			x.Buses = append(x.Buses, make([]lane.Bus, r.Intn(9))...)
		}
	}
	return x
}

// P1, P4.5: as many buses in as many lanes as there may be, however they come.
func TestLargest(t *testing.T) {
	r := rand.New(rand.NewSource(8))
	for _, x := range []struct {
		room []int
		many int
	}{{[]int{8, 8, 8}, 5}, {[]int{3, 3, 2}, 5}, {[]int{8, 8}, 6}, {[]int{8}, 7}, {[]int{0, 8, 0}, 7}, {[]int{6, 1, 1}, 5}} {
		for broken := range 3 {
			y := lane.Yard{Room: x.room, Buses: anyMinute(r.Perm(8)...), Broken: broken}
			lanes, many, ok := mustBest(t, y)
			if !ok || many != x.many {
				t.Errorf("Best of %v: %v, %d, %v", y, lanes, many, ok)
			}
			checkWorst(t, y, lanes, many)
		}
	}
}
