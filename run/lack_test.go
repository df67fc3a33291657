package run_test

import (
	"math"
	"math/rand"
	"slices"
	"testing"

	"layover/api"
	"layover/run"
)

// P1.5: Lacks.
func TestLacks(t *testing.T) {
	for name, x := range map[string]struct {
		table run.Table
		fleet []int
		want  []int
		e     api.Errno
	}{
		"example: 1, 1, 0":   {example(), []int{1, 1, 0}, []int{2}, api.OK},
		"example: 2, 0, 0":   {example(), []int{2, 0, 0}, []int{4}, api.OK},
		"example: 1, 0, 0":   {example(), []int{1, 0, 0}, []int{2, 4}, api.OK},
		"example: 2, 1, 0":   {example(), []int{2, 1, 0}, nil, api.OK},
		"no buses":           {example(), []int{0, 0, 0}, []int{0, 1, 2, 3, 4}, api.OK},
		"one kind alone":     {example(), []int{0, 12, 12}, []int{0, 1, 2, 3}, api.OK},
		"the most buses":     {example(), []int{12, 12, 12}, nil, api.OK},
		"no trips":           {onePlace(), []int{0, 0, 0}, nil, api.OK},
		"the least list":     {onePlace(sameStarts(4)...), []int{2, 0, 0}, []int{0, 1}, api.OK},
		"12 trips, 5 buses":  {onePlace(sameStarts(12)...), []int{5, 9, 9}, []int{0, 1, 2, 3, 4, 5, 6}, api.OK},
		"12 trips, no buses": {onePlace(sameStarts(12)...), []int{0, 9, 9}, []int{0, 1, 2, 3, 4, 5, 6, 7, 8, 9, 10, 11}, api.OK},
		"12 in a row":        {onePlace(inRow(12)...), []int{0, 0, 1}, nil, api.OK},
		// One trip that lasts all day is left out, not two short ones.
		"the shortest list": {
			onePlace(trip(0, 0, 0, 5, 5, 0), trip(0, 0, 20, 5, 5, 0), trip(0, 0, 0, 50, 50, 0)), []int{1, 0, 0}, []int{2}, api.OK,
		},
		// Without the trip 0, that goes to the place 1, the others need a bus more.
		"a trip that brings a bus there": {
			run.Table{Places: 2, Empty: [][]int{{0, 90}, {90, 0}}, Trips: []run.Trip{
				trip(0, 1, 10, 5, 5, 0), trip(0, 0, 0, 5, 5, 0), trip(1, 1, 20, 5, 5, 0), trip(0, 0, 1, 9, 9, 0),
			}}, []int{1, 0, 0}, []int{1}, api.OK,
		},
		"trips of two kinds": {
			onePlace(trip(0, 0, 5, 5, 5, 1), trip(0, 0, 5, 5, 5, 0), trip(0, 0, 5, 5, 5, 0), trip(0, 0, 5, 5, 5, 1)),
			[]int{1, 1, 0}, []int{0, 1}, api.OK,
		},
		"nil":             {example(), nil, nil, api.ErrRange},
		"a kind too few":  {example(), []int{1, 1}, nil, api.ErrRange},
		"a kind too many": {example(), []int{1, 1, 0, 0}, nil, api.ErrRange},
		"13 buses":        {example(), []int{13, 1, 0}, nil, api.ErrRange},
		"13 of the last":  {example(), []int{1, 1, 13}, nil, api.ErrRange},
		"below 0":         {example(), []int{1, -1, 0}, nil, api.ErrRange},
		"last below 0":    {example(), []int{1, 1, -1}, nil, api.ErrRange},
		"far too many":    {example(), []int{1, 1, math.MaxInt}, nil, api.ErrRange},
		"far below 0":     {example(), []int{math.MinInt, 1, 1}, nil, api.ErrRange},
	} {
		l, e := run.Lacks(x.table, x.fleet)
		if !slices.Equal(l, x.want) || e != x.e || e != api.OK && l != nil {
			t.Errorf("%s: %v, %v", name, l, e)
		}
	}
}

// P1.5, P1.10, P4, P5: the shortest list, and the least of these, by trying all of them.
func TestLacksIsShortest(t *testing.T) {
	r := rand.New(rand.NewSource(11))
	for number := range 150 {
		x := randomTable(r, number%9, 1+r.Intn(api.MaxRunKinds))
		fleet := randomFleet(r, 3)
		if l := mustLack(t, x, fleet); !slices.Equal(l, leftOut(x, fleet)) {
			t.Fatalf("Lacks of %v for %v: %v, not %v", x, fleet, l, leftOut(x, fleet))
		}
	}
}

// P1.10: without the trips left out the fleet is enough, by a cutting, and with a
// bus more no more are left out.
func TestLeftOut(t *testing.T) {
	forRandomTables(t, func(t *testing.T, r *rand.Rand, x run.Table) {
		fleet := randomFleet(r, 3)
		out := mustLack(t, x, fleet)
		if !isRising(x, out) {
			t.Fatalf("Lacks of %v for %v: %v", x, fleet, out)
		}
		rest := without(x, out)
		if used := busesOf(rest, mustCut(t, rest)); used[0] > fleet[0] || used[1] > fleet[1] || used[2] > fleet[2] {
			t.Errorf("Lacks of %v for %v: %v, and %v are needed", x, fleet, out, used)
		}
		for kind := range fleet {
			more := slices.Clone(fleet)
			more[kind]++
			if l := mustLack(t, x, more); len(l) > len(out) {
				t.Errorf("Lacks of %v for %v: %v, for %v: %v", x, fleet, out, more, l)
			}
		}
	})
}

// P1.10: with the fewest buses for each kind no trip is left out, with one fewer some is.
func TestNoneIsLeftOut(t *testing.T) {
	forRandomTables(t, func(t *testing.T, r *rand.Rand, x run.Table) {
		fleet := busesOf(x, mustCut(t, x))
		if l := mustLack(t, x, fleet); len(l) > 0 {
			t.Errorf("Lacks of %v for %v: %v", x, fleet, l)
		}
		for kind := range fleet {
			less := slices.Clone(fleet)
			less[kind]--
			if less[kind] >= 0 && len(mustLack(t, x, less)) == 0 {
				t.Errorf("Lacks of %v for %v: none", x, less)
			}
		}
	})
}

// busesOf counts the blocks of each kind.
func busesOf(x run.Table, blocks [][]int) []int {
	buses := make([]int, api.MaxRunKinds)
	for _, block := range blocks {
		buses[x.Trips[block[0]].Kind]++
	}
	return buses
}

func without(x run.Table, out []int) run.Table {
	rest := x
	rest.Trips = nil
	for number, trip := range x.Trips {
		if !slices.Contains(out, number) {
			rest.Trips = append(rest.Trips, trip)
		}
	}
	return rest
}
