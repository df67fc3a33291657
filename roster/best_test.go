package roster_test

import (
	"math"
	"math/rand"
	"slices"
	"testing"

	"layover/api"
	"layover/roster"
)

// P3.2: ProveRoster of the example.
func TestProveRoster(t *testing.T) {
	for _, x := range []struct {
		list   []int
		covers int
		want   bool
	}{
		{[]int{0, 2, 1, 0}, 4, true}, {[]int{0, 2, 1, 0}, 5, false}, {[]int{0, 2, 1, 0}, 3, true}, {[]int{0, 2, 1, 0}, -1, true},
		{[]int{0, 2, 1, 0}, math.MinInt, true}, {[]int{0, 2, 1, 0}, math.MaxInt, false},
		{[]int{0, 2, 1, -1}, 3, true}, {[]int{0, 2, 1, -1}, 4, false},
		{[]int{-1, -1, -1, -1}, 0, true}, {[]int{-1, -1, -1, -1}, 1, false},
		{[]int{0, 0, 1, 1}, 0, false}, {[]int{1, 2, 2, 2}, 0, false}, {[]int{0, 0, -1, -1}, -1, false},
	} {
		if roster.ProveRoster(example(), x.list, x.covers) != x.want {
			t.Errorf("ProveRoster of %v, %d: %v", x.list, x.covers, !x.want)
		}
	}
	if !roster.ProveRoster(easyWeek(0), nil, 0) || roster.ProveRoster(easyWeek(0), nil, 1) {
		t.Error("ProveRoster without duties")
	}
}

// P3.2, P3: what may break something in the latest truth is not legal.
func TestProveRosterLate(t *testing.T) {
	x := easyWeek(1, duty(0, 0, 100, 200, 0), duty(1, 0, 0, 0, 0))
	for rest, want := range map[int]bool{1240: true, 1241: false, 1340: false} {
		x.Rest = rest
		if mustLegal(x, []int{0, 0}) != want || !mustLegal(x, []int{-1, 0}) {
			t.Errorf("Rest %d: ProveRoster: %v", rest, !want)
		}
	}
	x.Rest = 0
	for hours, want := range map[int]bool{200: true, 199: false, 100: false} {
		x.Hours = hours
		if mustLegal(x, []int{0, 0}) != want {
			t.Errorf("Hours %d: ProveRoster: %v", hours, !want)
		}
	}
}

// P3.2: ProveRoster by the definition, of all rosters.
func TestProveRosterByDefinition(t *testing.T) {
	legals, others := 0, 0
	forRandomWeeks(t, func(t *testing.T, r *rand.Rand, x roster.Week) {
		for list := range rosters(x) {
			legal, many := isLegal(x, list), covers(list)
			if roster.ProveRoster(x, list, many) != legal || roster.ProveRoster(x, list, many+1) || mustLegal(x, list) != legal {
				t.Fatalf("ProveRoster of %v in %v: %v, and it covers %d", list, x, !legal, many)
			}
			if legal {
				legals++
			} else {
				others++
			}
		}
	})
	if legals < 1000 || others < 1000 {
		t.Errorf("%d rosters were legal, %d not", legals, others)
	}
}

// P3.3, P3.4: Best and Most, with the numbers that are known.
func TestBestAndMost(t *testing.T) {
	for name, x := range map[string]struct {
		week    roster.Week
		most    int
		granted []int // nil, if there is no best roster
	}{
		"example":              {example(), 4, []int{1, 1, 0}},
		"without the driver 2": {exampleBy(func(x *roster.Week) { x.Drivers = x.Drivers[:2] }), 3, nil},
		"without drivers":      {exampleBy(func(x *roster.Week) { x.Drivers = nil }), 0, nil},
		"no wishes":            {exampleBy(func(x *roster.Week) { x.Drivers[0].Wish, x.Drivers[1].Wish = nil, nil }), 4, []int{0, 0, 0}},
		"Hours 400":            {exampleBy(func(x *roster.Week) { x.Hours = 400 }), 1, nil},
		"Hours 0":              {exampleBy(func(x *roster.Week) { x.Hours = 0 }), 0, nil},
		"nothing at all":       {easyWeek(0), 0, []int{}},
		"no duties":            {easyWeek(2), 0, []int{0, 0}},
		"a row of 2":           {rowsOf(2, 0, noons(0, 1, 2, 3, 4, 5, 6)), 5, nil},
		"a row of 2, Row 2":    {rowsOf(2, 2, noons(0, 1, 2)), 2, nil},
		"a row of 6":           {rowsOf(6, 0, noons(0, 1, 2, 3, 4, 5, 6)), 6, nil},
		"a row of 7":           {rowsOf(7, 0, noons(0, 1, 2, 3, 4, 5, 6)), 7, []int{0}},
		"one at a time":        {easyWeek(1, noons(2, 2, 2)...), 1, nil},
		"6 at a time":          {easyWeek(6, noons(2, 2, 2, 2, 2, 2)...), 6, []int{0, 0, 0, 0, 0, 0}},
		"12 in a row of 6":     {easyWeek(2, noons(0, 1, 2, 3, 4, 5, 0, 1, 2, 3, 4, 5)...), 12, []int{0, 0}},
		"12, too many for 2":   {easyWeek(2, noons(0, 1, 2, 3, 4, 4, 0, 1, 2, 3, 4, 4)...), 10, nil},

		"wishes of leave, and none":  {wishing([][]int{{0, 1}, {}}, noons()), 0, []int{2, 0}},
		"the senior one is granted":  {wishing([][]int{{2}, {2}}, noons(2)), 1, []int{1, 0}},
		"the junior one, then":       {wishing([][]int{{}, {2}}, noons(2)), 1, []int{0, 1}},
		"one of two":                 {wishing([][]int{{2}, {2}}, noons(2, 2)), 2, []int{0, 0}},
		"more for the senior one":    {wishing([][]int{{0}, {0, 1, 2}}, noons(0, 1, 2)), 3, []int{1, 2}},
		"the first one of three":     {wishing([][]int{{0, 1}, {0, 1}, {0, 1}}, noons(0, 1, 1)), 3, []int{2, 1, 0}},
		"all cover, before a wish":   {wishing([][]int{{0, 1, 2, 3, 4, 5, 6}}, noons(0, 2)), 2, []int{5}},
		"a duty comes before wishes": {wishing([][]int{{0}}, noons(0, 0)), 1, nil},
	} {
		list, many := mustMost(t, x.week)
		if many != x.most || covers(list) != many || !roster.ProveRoster(x.week, list, many) {
			t.Errorf("%s: Most: %v, %d", name, list, many)
		}
		list, grants, ok := mustBest(t, x.week)
		if ok != (x.granted != nil) || !slices.Equal(grants, x.granted) {
			t.Errorf("%s: Best: %v, %v", name, list, grants)
		}
		if ok && (!roster.ProveRoster(x.week, list, len(x.week.Duties)) || !slices.Equal(granted(x.week, list), grants)) {
			t.Errorf("%s: Best: %v, %v", name, list, grants)
		}
	}
}

// rowsOf has one driver, and a law of a Run.
func rowsOf(run, row int, duties []roster.Duty) roster.Week {
	x := easyWeek(1, duties...)
	x.Run, x.Drivers[0].Row = run, row
	return x
}

// wishing has a driver for each list of wishes.
func wishing(wishes [][]int, duties []roster.Duty) roster.Week {
	x := easyWeek(len(wishes), duties...)
	for driver, wish := range wishes {
		x.Drivers[driver].Wish = wish
	}
	return x
}

// P3.3: the best rosters of the example differ only in who has the last duty.
func TestBestExample(t *testing.T) {
	list, grants, e := roster.Best(example())
	if !slices.Equal(grants, []int{1, 1, 0}) || e != api.OK {
		t.Errorf("Best: %v, %v, %v", list, grants, e)
	}
	var same [][]int
	for other := range rosters(example()) {
		if isLegal(example(), other) && covers(other) == 4 && slices.Equal(granted(example(), other), grants) {
			same = append(same, slices.Clone(other))
		}
	}
	if !slices.EqualFunc(same, [][]int{{0, 2, 1, 0}, {0, 2, 1, 2}}, slices.Equal[[]int]) {
		t.Errorf("best rosters: %v", same)
	}
	if !slices.ContainsFunc(same, func(other []int) bool { return slices.Equal(other, list) }) {
		t.Errorf("Best: %v", list)
	}
}

// P3.4: without the driver 2 one of the duties 0 and 1 is Nobody's.
func TestMostExample(t *testing.T) {
	x := exampleBy(func(x *roster.Week) { x.Drivers = x.Drivers[:2] })
	list, many := mustMost(t, x)
	if many != 3 || (list[0] == -1) == (list[1] == -1) || list[2] == -1 || list[3] == -1 {
		t.Errorf("Most: %v, %d", list, many)
	}
}

// tried has what the definition finds, if each roster is tried.
type tried struct {
	most    int
	granted []int // nil, if no legal roster covers all duties
}

func try(x roster.Week) tried {
	var found tried
	for list := range rosters(x) {
		if covers(list) < found.most || !isLegal(x, list) {
			continue
		}
		found.most = covers(list)
		if found.most == len(x.Duties) {
			if days := granted(x, list); found.granted == nil || slices.Compare(days, found.granted) > 0 {
				found.granted = append([]int{}, days...)
			}
		}
	}
	return found
}

// P3.3, P3.4, P3.7, P3.8, P4: no other roster is better.
func TestBestByDefinition(t *testing.T) {
	all, some := 0, 0
	forRandomWeeks(t, func(t *testing.T, r *rand.Rand, x roster.Week) {
		want := try(x)
		list, many := mustMost(t, x)
		if many != want.most || covers(list) != many || len(list) != len(x.Duties) || !isLegal(x, list) {
			t.Errorf("Most of %v: %v, %d; not %d", x, list, many, want.most)
		}
		list, grants, ok := mustBest(t, x)
		if ok != (want.most == len(x.Duties)) || !slices.Equal(grants, want.granted) {
			t.Errorf("Best of %v: %v, %v; not %v", x, list, grants, want)
		}
		if !ok {
			some++
			return
		}
		all++
		if len(list) != len(x.Duties) || covers(list) != len(list) || !isLegal(x, list) || !slices.Equal(granted(x, list), grants) {
			t.Errorf("Best of %v: %v, %v", x, list, grants)
		}
	})
	if all < 50 || some < 50 {
		t.Errorf("%d weeks had a best roster, %d had none", all, some)
	}
}

// P1, P3.4: weeks as large as they may be, of drivers who differ in little; each
// number of minutes is another sum.
func TestLargest(t *testing.T) {
	for name, x := range map[string]struct {
		days        []int
		hours, most int
	}{
		"two a day":         {[]int{0, 0, 1, 1, 2, 2, 3, 3, 4, 4, 5, 5}, 1440, 12},
		"two on many days":  {[]int{0, 0, 1, 1, 2, 2, 3, 3, 4, 4, 5, 6}, 20000, 12},
		"three a day":       {[]int{0, 0, 0, 1, 1, 1, 2, 2, 2, 3, 3, 3}, 1600, 12},
		"all at once":       {[]int{0, 0, 0, 0, 0, 0, 0, 0, 0, 0, 0, 0}, 20000, 6},
		"hours of one duty": {[]int{0, 0, 1, 1, 2, 2, 3, 3, 4, 4, 5, 5}, 500, 6},
	} {
		week := easyWeek(6, noons(x.days...)...)
		week.Hours = x.hours
		for number := range week.Duties {
			week.Duties[number].Off.Hi = 720 + 300 + 7*number + number*number
			week.Drivers[number/2].Wish = []int{number / 2}
		}
		list, many := mustMost(t, week)
		if many != x.most || !roster.ProveRoster(week, list, many) {
			t.Errorf("%s: Most: %v, %d", name, list, many)
		}
		if _, _, ok := mustBest(t, week); ok != (x.most == 12) {
			t.Errorf("%s: Best: %v", name, ok)
		}
	}
}
