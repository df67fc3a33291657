package charge_test

import (
	"math/rand"
	"slices"
	"testing"

	"layover/api"
	"layover/charge"
)

// P5.1: Needs.
func TestNeeds(t *testing.T) {
	for name, x := range map[string]struct {
		garage charge.Garage
		want   []int
	}{
		"example":            {example(), []int{6, 3}},
		"no buses":           {garage(slots(5, 1)), nil},
		"no slots":           {exampleBy(func(x *charge.Garage) { x.Slots = nil }), []int{6, 3}},
		"just enough":        {exampleBy(func(x *charge.Garage) { x.Buses[0].Home = to(12, 20) }), []int{0, 3}},
		"one too few":        {exampleBy(func(x *charge.Garage) { x.Buses[0].Home = to(11, 20) }), []int{1, 3}},
		"more than enough":   {exampleBy(func(x *charge.Garage) { x.Buses[0].Home = to(20, 20) }), []int{0, 3}},
		"no Use":             {exampleBy(func(x *charge.Garage) { x.Buses[1].Use = to(0, 0) }), []int{6, 0}},
		"no Use, below":      {exampleBy(func(x *charge.Garage) { x.Buses[1].Use, x.Buses[1].Home = to(0, 0), to(0, 20) }), []int{6, 2}},
		"all of the battery": {garage(nil, charge.Bus{Full: 1000, Floor: 400, Home: to(0, 1000), Use: to(0, 600)}), []int{1000}},
	} {
		if needs, e := charge.Needs(x.garage); !slices.Equal(needs, x.want) || e != api.OK {
			t.Errorf("%s: Needs: %v, %v", name, needs, e)
		}
	}
}

// P5.1, P2: a need is what is missing in the worst truth, and in no other one more.
func TestNeedsOfTruths(t *testing.T) {
	forRandomGarages(t, func(t *testing.T, r *rand.Rand, x charge.Garage) {
		needs, e := charge.Needs(x)
		if e != api.OK || len(needs) != len(x.Buses) {
			t.Fatalf("Needs of %v: %v, %v", x, needs, e)
		}
		for number, b := range x.Buses {
			most := 0
			for home := b.Home.Lo; home <= b.Home.Hi; home++ {
				for use := b.Use.Lo; use <= b.Use.Hi; use++ {
					most = max(most, b.Floor+use-home)
				}
			}
			if needs[number] != most {
				t.Errorf("Needs of %v: %v", x, needs)
			}
		}
	})
}

// P5.2: Cost, plans of the example.
func TestCost(t *testing.T) {
	for _, x := range []struct {
		plan [][]int
		want int
	}{
		{examplePlan(), 15},
		{[][]int{{3, 3, 0}, {0, 2, 1}}, 16},
		{[][]int{{4, 2, 0}, {0, 3, 0}}, 17},
		{[][]int{{4, 4, 0}, {0, 1, 3}}, 23}, // more than they need
		{[][]int{{4, 3, 0}, {0, 2, 3}}, 23},
	} {
		if n := mustCost(t, example(), x.plan); n != x.want {
			t.Errorf("Cost of %v: %d", x.plan, n)
		}
	}
	for name, x := range map[string]struct {
		garage charge.Garage
		plan   [][]int
		want   int
	}{
		"nothing":      {charge.Garage{}, nil, 0},
		"no buses":     {garage(slots(5, 9, 9)), nil, 0},
		"no slots":     {garage(nil, bus(0, 12, 5, 0), bus(0, 0, 0, 0)), [][]int{nil, nil}, 0},
		"no Price":     {garage(slots(5, 0), bus(0, 1, 5, 5)), [][]int{{5}}, 0},
		"nothing more": {garage(slots(5, 7), bus(0, 1, 5, 0)), [][]int{{0}}, 0},
		"what no battery holds": {
			garage(slots(9, 2, 2), charge.Bus{To: 2, Rate: 9, Full: 5}), [][]int{{9, 9}}, 36,
		},
		"all as great as can be": {
			garage(slots(1000, 1000, 1000), bus(0, 2, 1000, 1000), bus(0, 2, 1000, 1000)), [][]int{{1000, 0}, {0, 1000}}, 2000000,
		},
	} {
		if n := mustCost(t, x.garage, x.plan); n != x.want {
			t.Errorf("%s: Cost of %v: %d", name, x.plan, n)
		}
	}
}

// P5.2: Cost of all lists that may be a plan.
func TestCostOfAll(t *testing.T) {
	some, none := 0, 0
	r := rand.New(rand.NewSource(52))
	for range 3000 {
		x := randomGarage(r, r.Intn(4), r.Intn(3))
		plan := make([][]int, len(x.Buses))
		for number, b := range x.Buses {
			for slot := range x.Slots {
				plan[number] = append(plan[number], r.Intn(mayTake(b, slot)+1+r.Intn(9)/8))
			}
		}
		n, e := charge.Cost(x, plan)
		if want := isPlan(x, plan); want && (n != cost(x, plan) || e != api.OK) || !want && (n != 0 || e != api.ErrRange) {
			t.Fatalf("Cost of %v, %v: %d, %v", x, plan, n, e)
		} else if want {
			some++
		} else {
			none++
		}
	}
	if some < 500 || none < 500 {
		t.Errorf("%d plans, %d none", some, none)
	}
}

// P5.2: Play.
func TestPlay(t *testing.T) {
	small := charge.Bus{To: 3, Rate: 4, Full: 10, Floor: 1, Home: to(2, 10), Use: to(0, 9)}
	fuller := small
	fuller.Home = to(6, 10)
	for name, x := range map[string]struct {
		garage    charge.Garage
		plan      [][]int
		truth     charge.Truth
		out, left []int
		paid      int
	}{
		"example":             {example(), examplePlan(), exampleTruth(), []int{14, 8}, []int{5, 4}, 15},
		"the worst":           {example(), examplePlan(), charge.Truth{Home: []int{6, 5}, Use: []int{10, 6}}, []int{12, 8}, []int{2, 2}, 15},
		"the best":            {example(), examplePlan(), charge.Truth{Home: []int{9, 5}, Use: []int{8, 4}}, []int{15, 8}, []int{7, 4}, 15},
		"just full":           {garage(slots(9, 2, 5, 7), small), [][]int{{4, 4, 0}}, charge.Truth{Home: []int{2}, Use: []int{9}}, []int{10}, []int{1}, 28},
		"full in a slot":      {garage(slots(9, 2, 5, 7), small), [][]int{{4, 4, 0}}, charge.Truth{Home: []int{3}, Use: []int{9}}, []int{10}, []int{1}, 23},
		"full before a slot":  {garage(slots(9, 2, 5, 7), small), [][]int{{4, 4, 4}}, charge.Truth{Home: []int{6}, Use: []int{0}}, []int{10}, []int{10}, 8},
		"full from the start": {garage(slots(9, 2, 5, 7), small), [][]int{{4, 4, 4}}, charge.Truth{Home: []int{10}, Use: []int{3}}, []int{10}, []int{7}, 0},
		"a pause":             {garage(slots(9, 2, 5, 7), small), [][]int{{4, 0, 4}}, charge.Truth{Home: []int{3}, Use: []int{9}}, []int{10}, []int{1}, 29},
		"nothing":             {charge.Garage{}, nil, charge.Truth{}, nil, nil, 0},
		"no slots":            {garage(nil, bus(0, 5, 5, 0)), [][]int{nil}, charge.Truth{Home: []int{0}, Use: []int{0}}, []int{0}, []int{0}, 0},
		"one full, one not": {
			garage(slots(8, 3), fuller, fuller), [][]int{{4}, {4}}, charge.Truth{Home: []int{9, 6}, Use: []int{9, 0}}, []int{10, 10}, []int{1, 10}, 15,
		},
	} {
		out, left, paid := mustPlay(t, x.garage, x.plan, x.truth)
		if !slices.Equal(out, x.out) || !slices.Equal(left, x.left) || paid != x.paid {
			t.Errorf("%s: Play: %v, %v, %d", name, out, left, paid)
		}
	}
}

// P5.2: Play, unit by unit.
func TestPlayUnits(t *testing.T) {
	full := 0
	check := func(t *testing.T, r *rand.Rand, x charge.Garage) {
		plan, ok := anyPlan(r, x)
		if !ok {
			return
		}
		truth := anyTruth(r, x)
		out, left, paid := mustPlay(t, x, plan, truth)
		wantOut, wantLeft, wantPaid := night(x, plan, truth)
		if !slices.Equal(out, wantOut) || !slices.Equal(left, wantLeft) || paid != wantPaid {
			t.Errorf("Play of %v, %v, %v: %v, %v, %d", x, plan, truth, out, left, paid)
		}
		if paid < cost(x, plan) {
			full++
		}
	}
	forRandomGarages(t, check)
	forLargeGarages(t, check)
	if full < 200 {
		t.Errorf("%d nights with full batteries", full)
	}
}
