package lane_test

import (
	"math"
	"testing"

	"layover/api"
	"layover/lane"
)

// P4.1: CheckYard, the least and the greatest of what there is, and what is beyond it.
func TestCheckYard(t *testing.T) {
	for name, x := range map[string]struct {
		change func(x *lane.Yard)
		want   api.Errno
	}{
		"example":              {func(x *lane.Yard) {}, api.OK},
		"nothing":              {func(x *lane.Yard) { *x = lane.Yard{} }, api.ErrArg},
		"no lane":              {func(x *lane.Yard) { x.Room = nil }, api.ErrArg},
		"a lane without Room":  {func(x *lane.Yard) { *x = lane.Yard{Room: []int{0}} }, api.OK},
		"3 lanes":              {func(x *lane.Yard) { x.Room = make([]int, 3) }, api.OK},
		"4 lanes":              {func(x *lane.Yard) { x.Room = make([]int, 4) }, api.ErrLimit},
		"4 lanes, not valid":   {func(x *lane.Yard) { *x = lane.Yard{Room: repeated(-1, 4), Broken: 3} }, api.ErrLimit},
		"no buses":             {func(x *lane.Yard) { x.Buses = nil }, api.OK},
		"8 buses":              {func(x *lane.Yard) { x.Buses = anyMinute(upTo(7)...) }, api.OK},
		"9 buses":              {func(x *lane.Yard) { x.Buses = anyMinute(upTo(8)...) }, api.ErrLimit},
		"9 buses, not valid":   {func(x *lane.Yard) { x.Room, x.Buses = nil, make([]lane.Bus, 9) }, api.ErrLimit},
		"more than Room":       {func(x *lane.Yard) { x.Room = []int{1, 0} }, api.OK},
		"the last lane":        {func(x *lane.Yard) { x.Room[1] = 9 }, api.ErrArg},
		"Hi as Lo":             {func(x *lane.Yard) { x.Buses[0] = bus(120, 120, 40) }, api.OK},
		"Hi before Lo":         {func(x *lane.Yard) { x.Buses[0] = bus(121, 120, 40) }, api.ErrArg},
		"the last bus":         {func(x *lane.Yard) { x.Buses[3].Hi = 149 }, api.ErrArg},
		"any minute":           {func(x *lane.Yard) { x.Buses[0] = bus(0, 2000, 40) }, api.OK},
		"both too late":        {func(x *lane.Yard) { x.Buses[0] = bus(2001, 2001, 40) }, api.ErrArg},
		"both below 0":         {func(x *lane.Yard) { x.Buses[0] = bus(-1, -1, 40) }, api.ErrArg},
		"great numbers":        {func(x *lane.Yard) { x.Buses[0] = bus(math.MinInt, math.MaxInt, math.MaxInt) }, api.ErrArg},
		"a Turn twice":         {func(x *lane.Yard) { x.Buses[0].Turn = 10 }, api.ErrArg},
		"a Turn twice, behind": {func(x *lane.Yard) { x.Buses[2].Turn = 10 }, api.ErrArg},
		"the same minutes":     {func(x *lane.Yard) { x.Buses[0] = bus(110, 130, 40) }, api.OK},
		"a Turn as a minute":   {func(x *lane.Yard) { x.Buses[0].Turn = 100 }, api.OK},
		"Broken above buses":   {func(x *lane.Yard) { x.Buses, x.Broken = nil, 2 }, api.OK},
	} {
		y := exampleBy(x.change)
		if e := lane.CheckYard(y); e != x.want {
			t.Errorf("%s: CheckYard: %v, not %v", name, e, x.want)
		}
		checkErrors(t, name, y, x.want)
	}
}

// P4.1: CheckYard, each number.
func TestCheckNumbers(t *testing.T) {
	for name, x := range map[string]struct {
		number      func(x *lane.Yard) *int
		least, most int
	}{
		"Room":   {func(x *lane.Yard) *int { return &x.Room[0] }, 0, 8},
		"Broken": {func(x *lane.Yard) *int { return &x.Broken }, 0, 2},
		"Lo":     {func(x *lane.Yard) *int { return &x.Buses[0].Lo }, 0, 2000},
		"Hi":     {func(x *lane.Yard) *int { return &x.Buses[0].Hi }, 0, 2000},
		"Turn":   {func(x *lane.Yard) *int { return &x.Buses[0].Turn }, 0, 2000},
	} {
		for number, want := range map[int]api.Errno{
			x.least: api.OK, x.most: api.OK, x.least - 1: api.ErrArg, x.most + 1: api.ErrArg, math.MinInt: api.ErrArg, math.MaxInt: api.ErrArg,
		} {
			y := lane.Yard{Room: []int{1}, Buses: make([]lane.Bus, 1)}
			if name == "Lo" {
				y.Buses[0].Hi = 2000
			}
			*x.number(&y) = number
			if e := lane.CheckYard(y); e != want {
				t.Errorf("%s %d: %v, not %v", name, number, e, want)
			}
			checkErrors(t, name, y, want)
		}
	}
}

// checkErrors: each call has the error of the yard, before its own one, and
// nothing beside it (R1, R2).
func checkErrors(t *testing.T, name string, x lane.Yard, want api.Errno) {
	t.Helper()
	if want == api.OK {
		return
	}
	for _, lanes := range [][]int{nil, {0}, {-1}, {0, 0, 1, 1}, {9, 9}} {
		for _, list := range [][]int{nil, {0}, {0, 1, 2, 3}} {
			if l, e := lane.Shunts(x, lanes, list, list); l != nil || e != want {
				t.Errorf("%s: Shunts of %v, %v: %v, %v", name, lanes, list, l, e)
			}
			if l, e := lane.Morning(x, lanes, list, nil); l != nil || e != want {
				t.Errorf("%s: Morning of %v, %v: %v, %v", name, lanes, list, l, e)
			}
			if lane.ProveOrder(x, list) {
				t.Errorf("%s: ProveOrder of %v", name, list)
			}
		}
		if o, b, n, e := lane.Worst(x, lanes); o != nil || b != nil || n != 0 || e != want {
			t.Errorf("%s: Worst of %v: %v, %v, %d, %v", name, lanes, o, b, n, e)
		}
	}
	if lane.ProveOrder(x, upTo(len(x.Buses)-1)) {
		t.Errorf("%s: ProveOrder of all buses", name)
	}
	if l, n, e := lane.Best(x); l != nil || n != 0 || e != want {
		t.Errorf("%s: Best: %v, %d, %v", name, l, n, e)
	}
}

// checkRange: Shunts and Morning have ErrRange.
func checkRange(t *testing.T, name string, n night) {
	t.Helper()
	if l, e := lane.Shunts(n.yard, n.lanes, n.order, n.broken); l != nil || e != api.ErrRange {
		t.Errorf("%s: Shunts of %v: %v, %v", name, n, l, e)
	}
	if l, e := lane.Morning(n.yard, n.lanes, n.order, n.broken); l != nil || e != api.ErrRange {
		t.Errorf("%s: Morning of %v: %v, %v", name, n, l, e)
	}
}

// R1: what are no lanes for the buses.
func TestNoLanes(t *testing.T) {
	for _, lanes := range [][]int{
		nil, {0, 0, 1}, {0, 0, 1, 1, 1}, {0, 0, 0, 1}, {1, 0, 1, 1}, {0, 0, 1, 2}, {-1, 0, 1, 1}, {0, 0, 1, math.MaxInt}, {math.MinInt, 0, 1, 1}, make([]int, 1000),
	} {
		checkRange(t, "no lanes", night{example(), lanes, []int{0, 1, 2, 3}, nil})
		if o, b, n, e := lane.Worst(example(), lanes); o != nil || b != nil || n != 0 || e != api.ErrRange {
			t.Errorf("Worst of %v: %v, %v, %d, %v", lanes, o, b, n, e)
		}
	}
	for _, room := range [][]int{{0, 4}, {1, 8}, {3, 1}} {
		x := exampleBy(func(x *lane.Yard) { x.Room = room })
		for list := range lists(4, 2) {
			_, _, _, e := lane.Worst(x, list)
			_, f := lane.Shunts(x, list, []int{0, 1, 2, 3}, nil)
			if ok := areLanes(x, list); (e == api.OK) != ok || (f == api.OK) != ok {
				t.Errorf("Room %v: Worst, Shunts of %v: %v, %v", room, list, e, f)
			}
		}
	}
}

// R1: what is no order that is possible.
func TestNoOrder(t *testing.T) {
	for _, order := range [][]int{
		nil, {0, 1, 2}, {0, 1, 2, 3, 3}, {0, 1, 2, 2}, {0, 0, 2, 3}, {0, 1, 2, 4}, {-1, 1, 2, 3}, {0, 1, 2, math.MaxInt}, {math.MinInt, 1, 2, 3},
		{2, 0, 1, 3}, {1, 2, 0, 3}, {3, 0, 1, 2}, {0, 1, 3, 2}, make([]int, 1000),
	} {
		checkRange(t, "no order", night{example(), []int{0, 0, 1, 1}, order, nil})
		if lane.ProveOrder(example(), order) {
			t.Errorf("ProveOrder of %v", order)
		}
	}
}

// R1: what are no buses that may break down.
func TestNoBroken(t *testing.T) {
	for broken, lists := range [][][]int{
		{{0}, {0, 1}, {3}, {-1}},
		{{0, 1}, {2, 3}, {4}, {-1}, {math.MaxInt}},
		{{0, 1, 2}, {1, 0}, {3, 2}, {1, 1}, {0, 4}, {4}, {-1}, {-1, 0}, {math.MinInt, 0}, {0, math.MaxInt}, {0, 1, 2, 3}},
	} {
		x := exampleBy(func(x *lane.Yard) { x.Broken = broken })
		for _, list := range lists {
			checkRange(t, "not broken", night{x, []int{0, 0, 1, 1}, []int{0, 1, 2, 3}, list})
		}
		for _, list := range downs(x) {
			mustShunts(t, night{x, []int{0, 0, 1, 1}, []int{0, 1, 2, 3}, list})
		}
	}
}

// R1: Best, if there is not as much Room as there are buses.
func TestNoRoom(t *testing.T) {
	for _, x := range []struct {
		room []int
		want api.Errno
	}{
		{[]int{4}, api.OK}, {[]int{3}, api.ErrFail}, {[]int{0}, api.ErrFail}, {[]int{0, 3}, api.ErrFail}, {[]int{0, 4}, api.OK},
		{[]int{1, 1, 1}, api.ErrFail}, {[]int{1, 2, 1}, api.OK}, {[]int{8, 8, 8}, api.OK}, {[]int{0, 0, 0}, api.ErrFail},
	} {
		y := exampleBy(func(y *lane.Yard) { y.Room = x.room })
		if l, n, e := lane.Best(y); e != x.want || e != api.OK && (l != nil || n != 0) {
			t.Errorf("Room %v: Best: %v, %d, %v", x.room, l, n, e)
		}
		if !lane.ProveOrder(y, []int{0, 1, 2, 3}) {
			t.Errorf("Room %v: ProveOrder", x.room)
		}
	}
	if l, n, e := lane.Best(lane.Yard{Room: []int{0, 0}}); len(l) != 0 || n != 0 || e != api.OK {
		t.Errorf("no buses: Best: %v, %d, %v", l, n, e)
	}
}
