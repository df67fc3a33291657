package charge_test

import (
	"math"
	"testing"

	"layover/api"
	"layover/charge"
)

// P5.1: CheckGarage, the least and the greatest of what there is, and what is beyond it.
func TestCheckGarage(t *testing.T) {
	for name, x := range map[string]struct {
		change func(x *charge.Garage)
		want   api.Errno
	}{
		"example":                  {func(x *charge.Garage) {}, api.OK},
		"nothing":                  {func(x *charge.Garage) { *x = charge.Garage{} }, api.OK},
		"no slots":                 {func(x *charge.Garage) { x.Slots = nil }, api.OK},
		"no buses":                 {func(x *charge.Garage) { x.Buses = nil }, api.OK},
		"12 slots":                 {func(x *charge.Garage) { x.Slots = make([]charge.Slot, 12) }, api.OK},
		"13 slots":                 {func(x *charge.Garage) { x.Slots = make([]charge.Slot, 13) }, api.ErrLimit},
		"13 slots, not valid":      {func(x *charge.Garage) { x.Slots, x.Buses[0].From = make([]charge.Slot, 13), -1 }, api.ErrLimit},
		"5 buses":                  {func(x *charge.Garage) { x.Buses = make([]charge.Bus, 5) }, api.OK},
		"6 buses":                  {func(x *charge.Garage) { x.Buses = make([]charge.Bus, 6) }, api.ErrLimit},
		"6 buses, not valid":       {func(x *charge.Garage) { x.Buses, x.Slots[0].Price = make([]charge.Bus, 6), -1 }, api.ErrLimit},
		"the last slot":            {func(x *charge.Garage) { x.Slots[2].Power = 1001 }, api.ErrArg},
		"the last bus":             {func(x *charge.Garage) { x.Buses[1].Rate = 1001 }, api.ErrArg},
		"From as To":               {func(x *charge.Garage) { x.Buses[0].From = 2 }, api.OK},
		"From behind To":           {func(x *charge.Garage) { x.Buses[0].From = 3 }, api.ErrArg},
		"To behind the slots":      {func(x *charge.Garage) { x.Buses[0].To = 12 }, api.OK},
		"both behind the slots":    {func(x *charge.Garage) { x.Buses[0].From, x.Buses[0].To = 12, 12 }, api.OK},
		"both too far":             {func(x *charge.Garage) { x.Buses[0].From, x.Buses[0].To = 13, 13 }, api.ErrArg},
		"both below 0":             {func(x *charge.Garage) { x.Buses[0].From, x.Buses[0].To = -1, -1 }, api.ErrArg},
		"Floor as Full":            {func(x *charge.Garage) { x.Buses[0].Floor, x.Buses[0].Use = 20, to(0, 0) }, api.OK},
		"Floor above Full":         {func(x *charge.Garage) { x.Buses[0].Floor, x.Buses[0].Use = 21, to(0, 0) }, api.ErrArg},
		"Floor above, Use below":   {func(x *charge.Garage) { x.Buses[0].Floor, x.Buses[0].Use = 21, to(-1, -1) }, api.ErrArg},
		"Home up to Full":          {func(x *charge.Garage) { x.Buses[0].Home = to(0, 20) }, api.OK},
		"Home is Full":             {func(x *charge.Garage) { x.Buses[0].Home = to(20, 20) }, api.OK},
		"Home above Full":          {func(x *charge.Garage) { x.Buses[0].Home = to(0, 21) }, api.ErrArg},
		"Home above Full for sure": {func(x *charge.Garage) { x.Buses[0].Home = to(21, 21) }, api.ErrArg},
		"Home below 0":             {func(x *charge.Garage) { x.Buses[0].Home = to(-1, 9) }, api.ErrArg},
		"Home turned round":        {func(x *charge.Garage) { x.Buses[0].Home = to(9, 8) }, api.ErrArg},
		"Home below Floor":         {func(x *charge.Garage) { x.Buses[0].Home = to(0, 1) }, api.OK},
		"Use up to what there is":  {func(x *charge.Garage) { x.Buses[0].Use = to(0, 18) }, api.OK},
		"Use of more":              {func(x *charge.Garage) { x.Buses[0].Use = to(0, 19) }, api.ErrArg},
		"Use of more for sure":     {func(x *charge.Garage) { x.Buses[0].Use = to(19, 19) }, api.ErrArg},
		"Use below 0":              {func(x *charge.Garage) { x.Buses[0].Use = to(-1, 9) }, api.ErrArg},
		"Use turned round":         {func(x *charge.Garage) { x.Buses[0].Use = to(9, 8) }, api.ErrArg},
		"great Use":                {func(x *charge.Garage) { x.Buses[0].Use = to(0, math.MaxInt) }, api.ErrArg},
		"great Home":               {func(x *charge.Garage) { x.Buses[0].Home = to(math.MinInt, math.MaxInt) }, api.ErrArg},
		"nothing in the battery":   {func(x *charge.Garage) { x.Buses[0] = charge.Bus{To: 2, Rate: 1000} }, api.OK},
		"all as great as can be": {func(x *charge.Garage) {
			x.Buses[0] = charge.Bus{From: 12, To: 12, Rate: 1000, Full: 1000, Floor: 1000, Home: to(1000, 1000)}
		}, api.OK},
	} {
		g := exampleBy(x.change)
		if e := charge.CheckGarage(g); e != x.want {
			t.Errorf("%s: CheckGarage: %v, not %v", name, e, x.want)
		}
		checkErrors(t, name, g, x.want)
	}
}

// P5.1: CheckGarage, each number.
func TestCheckNumbers(t *testing.T) {
	for name, x := range map[string]struct {
		number      func(x *charge.Garage) *int
		least, most int
	}{
		"Power":   {func(x *charge.Garage) *int { return &x.Slots[0].Power }, 0, 1000},
		"Price":   {func(x *charge.Garage) *int { return &x.Slots[0].Price }, 0, 1000},
		"From":    {func(x *charge.Garage) *int { return &x.Buses[0].From }, 0, 12},
		"To":      {func(x *charge.Garage) *int { return &x.Buses[0].To }, 0, 12},
		"Rate":    {func(x *charge.Garage) *int { return &x.Buses[0].Rate }, 0, 1000},
		"Full":    {func(x *charge.Garage) *int { return &x.Buses[0].Full }, 0, 1000},
		"Floor":   {func(x *charge.Garage) *int { return &x.Buses[0].Floor }, 0, 1000},
		"Home.Lo": {func(x *charge.Garage) *int { return &x.Buses[0].Home.Lo }, 0, 1000},
		"Home.Hi": {func(x *charge.Garage) *int { return &x.Buses[0].Home.Hi }, 0, 1000},
		"Use.Lo":  {func(x *charge.Garage) *int { return &x.Buses[0].Use.Lo }, 0, 1000},
		"Use.Hi":  {func(x *charge.Garage) *int { return &x.Buses[0].Use.Hi }, 0, 1000},
	} {
		for number, want := range map[int]api.Errno{
			x.least: api.OK, x.most: api.OK, x.least - 1: api.ErrArg, x.most + 1: api.ErrArg, math.MinInt: api.ErrArg, math.MaxInt: api.ErrArg,
		} {
			g := garage(make([]charge.Slot, 1), make([]charge.Bus, 1)...)
			switch name {
			case "From":
				g.Buses[0].To = 12
			case "Floor", "Home.Hi", "Use.Hi":
				g.Buses[0].Full = 1000
			case "Home.Lo", "Use.Lo":
				g.Buses[0].Full, g.Buses[0].Home.Hi, g.Buses[0].Use.Hi = 1000, 1000, 1000
			}
			*x.number(&g) = number
			if e := charge.CheckGarage(g); e != want {
				t.Errorf("%s %d: %v, not %v", name, number, e, want)
			}
			checkErrors(t, name, g, want)
		}
	}
}

// checkErrors: each call has the error of the garage, before its own one, and
// nothing beside it (R1, R2).
func checkErrors(t *testing.T, name string, x charge.Garage, want api.Errno) {
	t.Helper()
	if want == api.OK {
		return
	}
	if n, e := charge.Needs(x); n != nil || e != want {
		t.Errorf("%s: Needs: %v, %v", name, n, e)
	}
	for _, plan := range [][][]int{nil, {{0}}, examplePlan(), make([][]int, 9)} {
		if n, e := charge.Cost(x, plan); n != 0 || e != want {
			t.Errorf("%s: Cost of %v: %d, %v", name, plan, n, e)
		}
		for _, truth := range []charge.Truth{{}, exampleTruth()} {
			if o, l, n, e := charge.Play(x, plan, truth); o != nil || l != nil || n != 0 || e != want {
				t.Errorf("%s: Play of %v, %v: %v, %v, %d, %v", name, plan, truth, o, l, n, e)
			}
		}
	}
	for _, list := range [][]int{nil, {0}, {0, 1}, {0, 1, 2}, make([]int, len(x.Buses))} {
		if n, e := charge.Bound(x, list, make([]int, len(x.Slots))); n != 0 || e != want {
			t.Errorf("%s: Bound of %v: %d, %v", name, list, n, e)
		}
	}
	if p, n, e := charge.Best(x); p != nil || n != 0 || e != want {
		t.Errorf("%s: Best: %v, %d, %v", name, p, n, e)
	}
	if w, s, e := charge.Proof(x); w != nil || s != nil || e != want {
		t.Errorf("%s: Proof: %v, %v, %v", name, w, s, e)
	}
	if b, n, e := charge.Lack(x); b != nil || n != 0 || e != want {
		t.Errorf("%s: Lack: %v, %d, %v", name, b, n, e)
	}
}

// R1: what is no plan.
func TestNoPlan(t *testing.T) {
	for name, plan := range map[string][][]int{
		"none":                      nil,
		"no lists":                  {},
		"no slots":                  {nil, nil},
		"a list too few":            {{2, 4, 0}},
		"a list too many":           {{2, 4, 0}, {0, 1, 2}, {0, 0, 0}},
		"an empty list too many":    {{2, 4, 0}, {0, 1, 2}, nil},
		"a slot too few":            {{2, 4}, {0, 1, 2}},
		"a slot too few at the end": {{2, 4, 0}, {0, 1}},
		"a slot too many":           {{2, 4, 0, 0}, {0, 1, 2}},
		"more than the Rate":        {{1, 5, 0}, {0, 0, 3}},
		"more than it at the end":   {{2, 4, 0}, {0, 0, 4}},
		"below 0":                   {{2, 4, 0}, {0, -1, 3}},
		"below 0, and enough":       {{4, 4, 0}, {-1, 1, 3}},
		"not there yet":             {{2, 4, 0}, {1, 0, 2}},
		"not there any more":        {{2, 4, 1}, {0, 1, 2}},
		"more than the Power":       {{2, 4, 0}, {0, 2, 1}},
		"too little for one":        {{1, 4, 0}, {0, 1, 2}},
		"too little for the other":  {{2, 4, 0}, {0, 0, 2}},
		"great numbers":             {{2, math.MaxInt, 0}, {0, math.MaxInt, 2}},
		"numbers that would fit":    {{math.MaxInt, math.MinInt, 0}, {0, 1, 2}},
	} {
		checkNoPlan(t, name, example(), plan)
	}
	checkNoPlan(t, "a list for no bus", charge.Garage{}, [][]int{nil})
	checkNoPlan(t, "no list for a bus", garage(nil, bus(0, 0, 0, 0)), nil)
	checkNoPlan(t, "a slot that is not", garage(nil, bus(0, 12, 9, 0)), [][]int{{0}})
	checkNoPlan(t, "a need that cannot be", garage(nil, bus(0, 12, 9, 1)), [][]int{nil})
	checkNoPlan(t, "in the slot To", garage(slots(9, 1), bus(0, 0, 9, 0)), [][]int{{1}})
}

func checkNoPlan(t *testing.T, name string, x charge.Garage, plan [][]int) {
	t.Helper()
	if n, e := charge.Cost(x, plan); n != 0 || e != api.ErrRange {
		t.Errorf("%s: Cost of %v: %d, %v", name, plan, n, e)
	}
	truth := charge.Truth{Home: make([]int, len(x.Buses)), Use: make([]int, len(x.Buses))}
	for number, b := range x.Buses {
		truth.Home[number], truth.Use[number] = b.Home.Lo, b.Use.Hi
	}
	if o, l, n, e := charge.Play(x, plan, truth); o != nil || l != nil || n != 0 || e != api.ErrRange {
		t.Errorf("%s: Play of %v: %v, %v, %d, %v", name, plan, o, l, n, e)
	}
}

// R1: what is no truth.
func TestNoTruth(t *testing.T) {
	for name, truth := range map[string]charge.Truth{
		"none":                {},
		"no Use":              {Home: []int{8, 5}},
		"no Home":             {Use: []int{9, 4}},
		"a Home too few":      {Home: []int{8}, Use: []int{9, 4}},
		"a Home too many":     {Home: []int{8, 5, 5}, Use: []int{9, 4}},
		"a Use too few":       {Home: []int{8, 5}, Use: []int{9}},
		"a Use too many":      {Home: []int{8, 5}, Use: []int{9, 4, 4}},
		"Home below":          {Home: []int{5, 5}, Use: []int{9, 4}},
		"Home above":          {Home: []int{10, 5}, Use: []int{9, 4}},
		"Home below, behind":  {Home: []int{8, 4}, Use: []int{9, 4}},
		"Home above, behind":  {Home: []int{8, 6}, Use: []int{9, 4}},
		"Use below":           {Home: []int{8, 5}, Use: []int{7, 4}},
		"Use above":           {Home: []int{8, 5}, Use: []int{11, 4}},
		"Use below, behind":   {Home: []int{8, 5}, Use: []int{9, 3}},
		"Use above, behind":   {Home: []int{8, 5}, Use: []int{9, 7}},
		"great numbers":       {Home: []int{math.MaxInt, 5}, Use: []int{math.MinInt, 4}},
		"other great numbers": {Home: []int{math.MinInt, 5}, Use: []int{math.MaxInt, 4}},
	} {
		if o, l, n, e := charge.Play(example(), examplePlan(), truth); o != nil || l != nil || n != 0 || e != api.ErrRange {
			t.Errorf("%s: Play of %v: %v, %v, %d, %v", name, truth, o, l, n, e)
		}
	}
	if o, l, n, e := charge.Play(charge.Garage{}, nil, charge.Truth{Home: []int{0}}); o != nil || l != nil || n != 0 || e != api.ErrRange {
		t.Errorf("Play of a bus that is not: %v, %v, %d, %v", o, l, n, e)
	}
}

// R1: what are no worths and surcharges.
func TestNoWorths(t *testing.T) {
	for _, x := range []struct {
		worths, surcharges []int
		want               api.Errno
	}{
		{[]int{0, 0}, []int{0, 0, 0}, api.OK},
		{[]int{100000, -100000}, []int{100000, 0, 100000}, api.OK},
		{[]int{100001, 0}, []int{0, 0, 0}, api.ErrRange},
		{[]int{0, 100001}, []int{0, 0, 0}, api.ErrRange},
		{[]int{-100001, 0}, []int{0, 0, 0}, api.ErrRange},
		{[]int{0, 0}, []int{100001, 0, 0}, api.ErrRange},
		{[]int{0, 0}, []int{0, 0, 100001}, api.ErrRange},
		{[]int{0, 0}, []int{-1, 0, 0}, api.ErrRange},
		{[]int{0, 0}, []int{0, 0, -1}, api.ErrRange},
		{[]int{0}, []int{0, 0, 0}, api.ErrRange},
		{[]int{0, 0, 0}, []int{0, 0, 0}, api.ErrRange},
		{nil, []int{0, 0, 0}, api.ErrRange},
		{[]int{0, 0}, []int{0, 0}, api.ErrRange},
		{[]int{0, 0}, []int{0, 0, 0, 0}, api.ErrRange},
		{[]int{0, 0}, nil, api.ErrRange},
		{nil, nil, api.ErrRange},
		{[]int{math.MaxInt, 0}, []int{0, 0, 0}, api.ErrRange},
		{[]int{math.MinInt, 0}, []int{math.MaxInt, 0, 0}, api.ErrRange},
		{make([]int, 1000), make([]int, 1000), api.ErrRange},
	} {
		if n, e := charge.Bound(example(), x.worths, x.surcharges); e != x.want || e != api.OK && n != 0 {
			t.Errorf("Bound of %v, %v: %d, %v", x.worths, x.surcharges, n, e)
		}
	}
}
