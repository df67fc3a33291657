package run_test

import (
	"math"
	"math/rand"
	"slices"
	"testing"

	"layover/api"
	"layover/run"
)

// calls has all calls with one argument of each sort.
type calls struct {
	table         run.Table
	blocks        [][]int
	times, fleet  []int
	ahead, behind []int
	buses         int
}

// results has what all calls return.
type results struct {
	lists  [][][]int
	errors []api.Errno
	proofs []bool
}

func (c calls) make() results {
	follows, e1 := run.Follows(c.table)
	blocks, e2 := run.Cut(c.table)
	ahead, behind, e3 := run.Cover(c.table)
	waits, e4 := run.Play(c.table, c.blocks, c.times)
	out, e5 := run.Lacks(c.table, c.fleet)
	return results{
		[][][]int{follows, blocks, {ahead, behind}, waits, {out}},
		[]api.Errno{run.CheckTable(c.table), e1, e2, e3, e4, e5},
		[]bool{run.ProveCut(c.table, c.blocks), run.ProveCover(c.table, c.ahead, c.behind, c.buses)},
	}
}

func (a results) same(b results) bool {
	return slices.EqualFunc(a.lists, b.lists, sameLists) && slices.Equal(a.errors, b.errors) && slices.Equal(a.proofs, b.proofs)
}

func (c calls) clone() calls {
	return calls{
		cloneTable(c.table), cloneLists(c.blocks), slices.Clone(c.times), slices.Clone(c.fleet),
		slices.Clone(c.ahead), slices.Clone(c.behind), c.buses,
	}
}

func (c calls) same(d calls) bool {
	return sameTable(c.table, d.table) && sameLists(c.blocks, d.blocks) && slices.Equal(c.times, d.times) &&
		slices.Equal(c.fleet, d.fleet) && slices.Equal(c.ahead, d.ahead) && slices.Equal(c.behind, d.behind)
}

func validCalls(r *rand.Rand, x run.Table) calls {
	c := calls{table: x, times: times(r, x), fleet: randomFleet(r, 2)}
	c.blocks, _ = run.Cut(x)
	c.ahead, c.behind, _ = run.Cover(x)
	return c
}

// The rules: the same arguments lead to the same results.
func TestSameAgain(t *testing.T) {
	forRandomTables(t, func(t *testing.T, r *rand.Rand, x run.Table) {
		c := validCalls(r, x)
		if first := c.make(); !first.same(c.clone().make()) {
			t.Errorf("calls of %v differ", c)
		}
	})
}

// R4: no call changes an argument, and no result shares memory.
func TestMemory(t *testing.T) {
	forRandomTables(t, func(t *testing.T, r *rand.Rand, x run.Table) {
		c := validCalls(r, x)
		before := c.clone()
		got := c.make()
		if !c.same(before) {
			t.Fatalf("the arguments %v have become %v", before, c)
		}
		for number, list := range flat(got.lists) {
			for place := range list {
				list[place] = -100 - number
			}
			// What is written behind a list must not be in another one.
			_ = append(list, -1000, -1000, -1000, -1000)
		}
		for number, list := range flat(got.lists) {
			if slices.ContainsFunc(list, func(n int) bool { return n != -100-number }) {
				t.Fatalf("two results of %v share memory", before)
			}
		}
		if !c.same(before) || !c.make().same(before.make()) {
			t.Fatalf("the results share memory with the arguments %v", before)
		}
	})
}

func flat(lists [][][]int) [][]int { return slices.Concat(lists...) }

// R3: a list without elements may be nil.
func TestNil(t *testing.T) {
	empty := []int{}
	some := onePlace()
	some.Trips = []run.Trip{}
	if !(calls{table: onePlace()}).make().same(calls{some, [][]int{}, empty, empty, empty, empty, 0}.make()) {
		t.Error("no trips: nil and an empty list differ")
	}
	x := onePlace(trip(0, 0, 0, 1, 1, 0))
	nils := calls{table: x, blocks: [][]int{nil}}
	if !nils.make().same(calls{x, [][]int{{}}, empty, empty, empty, empty, 0}.make()) {
		t.Error("a trip: nil and an empty list differ")
	}
	if !(calls{}).make().same(calls{table: run.Table{Empty: [][]int{}, Trips: []run.Trip{}}}.make()) {
		t.Error("no timetable: nil and an empty list differ")
	}
}

// R1, R2: the timetable is asked before the other arguments.
func TestErrorOrder(t *testing.T) {
	long, wrong := example(), example()
	long.Trips = sameTrips(13)
	wrong.Layover = -1
	for _, x := range []struct {
		table run.Table
		want  api.Errno
	}{{long, api.ErrLimit}, {wrong, api.ErrArg}, {example(), api.ErrRange}} {
		if w, e := run.Play(x.table, [][]int{{9}}, []int{-1}); w != nil || e != x.want {
			t.Errorf("Play: %v, %v, not %v", w, e, x.want)
		}
		if l, e := run.Lacks(x.table, []int{-1}); l != nil || e != x.want {
			t.Errorf("Lacks: %v, %v, not %v", l, e, x.want)
		}
	}
}

// P1, R5: no arguments make a call panic, however odd they are.
func TestOddArguments(t *testing.T) {
	r := rand.New(rand.NewSource(5))
	for range 20000 {
		c := calls{table: oddTable(r), blocks: oddLists(r), times: oddList(r), fleet: oddList(r), ahead: oddList(r), behind: oddList(r), buses: odd(r)}
		got := c.make()
		want := run.CheckTable(c.table)
		for _, e := range got.errors[:4] {
			if e != want {
				t.Fatalf("errors of %v: %v", c, got.errors)
			}
		}
		for _, e := range got.errors[4:] {
			if e != want && (want != api.OK || e != api.ErrRange) {
				t.Fatalf("errors of %v: %v", c, got.errors)
			}
		}
		if want != api.OK && (got.proofs[0] || got.proofs[1] || len(flat(got.lists[:2])) > 0) {
			t.Fatalf("results of %v: %v", c, got)
		}
	}
}

func odd(r *rand.Rand) int {
	numbers := []int{0, 0, 0, 1, 1, 1, 2, 3, 12, 13, 600, 601, 2000, 2001, -1, math.MaxInt, math.MinInt, math.MaxInt - 1, 1 << 32}
	return numbers[r.Intn(len(numbers))]
}

func oddList(r *rand.Rand) []int {
	var list []int
	for range r.Intn(5) {
		list = append(list, odd(r))
	}
	return list
}

func oddLists(r *rand.Rand) [][]int {
	var lists [][]int
	for range r.Intn(4) {
		lists = append(lists, oddList(r))
	}
	return lists
}

// oddTable is a valid timetable, with one or two things changed.
func oddTable(r *rand.Rand) run.Table {
	x := randomTable(r, r.Intn(4), 3)
	for range r.Intn(3) {
		switch r.Intn(6) {
		case 0:
			x.Places = odd(r)
		case 1:
			x.Layover = odd(r)
		case 2:
			x.Empty = oddLists(r)
		case 3:
			x.Empty[r.Intn(len(x.Empty)+1)%max(1, len(x.Empty))] = oddList(r)
		case 4:
			x.Trips = append(x.Trips, trip(odd(r), odd(r), odd(r), odd(r), odd(r), odd(r)))
		case 5:
			x.Trips = sameTrips(10 + r.Intn(5))
		}
		if len(x.Empty) == 0 {
			break
		}
	}
	return x
}

// The word and the number of an error.
func TestErrno(t *testing.T) {
	for e, want := range map[api.Errno]string{api.OK: "stop 0", api.ErrArg: "stop 1", api.ErrRange: "stop 2", api.ErrLimit: "stop 3"} {
		if e.Error() != want {
			t.Errorf("%q, not %q", e.Error(), want)
		}
	}
}
