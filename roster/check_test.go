package roster_test

import (
	"math"
	"testing"

	"layover/api"
	"layover/roster"
)

// P3.1: CheckWeek, the least and the greatest of what there is, and what is beyond it.
func TestCheckWeek(t *testing.T) {
	for name, x := range map[string]struct {
		change func(x *roster.Week)
		want   api.Errno
	}{
		"example":               {func(x *roster.Week) {}, api.OK},
		"nothing":               {func(x *roster.Week) { *x = roster.Week{} }, api.ErrArg},
		"a day, a run":          {func(x *roster.Week) { *x = roster.Week{Days: 1, Run: 1} }, api.OK},
		"no duties":             {func(x *roster.Week) { x.Duties = nil }, api.OK},
		"no drivers":            {func(x *roster.Week) { x.Drivers = nil }, api.OK},
		"12 duties":             {func(x *roster.Week) { x.Duties = make([]roster.Duty, 12) }, api.OK},
		"13 duties":             {func(x *roster.Week) { x.Duties = make([]roster.Duty, 13) }, api.ErrLimit},
		"13 duties, not valid":  {func(x *roster.Week) { *x = roster.Week{Duties: make([]roster.Duty, 13)} }, api.ErrLimit},
		"6 drivers":             {func(x *roster.Week) { x.Drivers = make([]roster.Driver, 6) }, api.OK},
		"7 drivers":             {func(x *roster.Week) { x.Drivers = make([]roster.Driver, 7) }, api.ErrLimit},
		"7 drivers, not valid":  {func(x *roster.Week) { *x = roster.Week{Drivers: make([]roster.Driver, 7)} }, api.ErrLimit},
		"too many days":         {func(x *roster.Week) { x.Days = 8 }, api.ErrArg},
		"too few days":          {func(x *roster.Week) { x.Days = 2 }, api.ErrArg},
		"a day below 0":         {func(x *roster.Week) { x.Duties[3].Day = -1 }, api.ErrArg},
		"the day 3 of 3":        {func(x *roster.Week) { x.Duties[0].Day = 3 }, api.ErrArg},
		"the day 3 of 4":        {func(x *roster.Week) { x.Days, x.Duties[0].Day = 4, 3 }, api.OK},
		"Off from On":           {func(x *roster.Week) { x.Duties[0].Off = roster.Range{Lo: 300, Hi: 300} }, api.OK},
		"Off before On":         {func(x *roster.Week) { x.Duties[0].Off.Lo = 299 }, api.ErrArg},
		"Off after a day":       {func(x *roster.Week) { x.Duties[0].Off = roster.Range{Lo: 1740, Hi: 1740} }, api.OK},
		"Off later than that":   {func(x *roster.Week) { x.Duties[0].Off.Hi = 1741 }, api.ErrArg},
		"both later":            {func(x *roster.Week) { x.Duties[0].Off = roster.Range{Lo: 1741, Hi: 1741} }, api.ErrArg},
		"Off backwards":         {func(x *roster.Week) { x.Duties[3].Off = roster.Range{Lo: 911, Hi: 910} }, api.ErrArg},
		"On 1439, a day long":   {func(x *roster.Week) { x.Duties[0] = duty(0, 1439, 1439, 2879, 0) }, api.OK},
		"On 0, a day long":      {func(x *roster.Week) { x.Duties[0] = duty(0, 0, 0, 1440, 0) }, api.OK},
		"great numbers":         {func(x *roster.Week) { x.Duties[0] = duty(0, math.MaxInt, math.MinInt, math.MaxInt, 0) }, api.ErrArg},
		"Knows nothing":         {func(x *roster.Week) { x.Drivers[2].Knows = nil }, api.OK},
		"Knows all":             {func(x *roster.Week) { x.Drivers[2].Knows = upTo(15) }, api.OK},
		"Knows 16":              {func(x *roster.Week) { x.Drivers[2].Knows = upTo(16) }, api.ErrArg},
		"Knows below 0":         {func(x *roster.Week) { x.Drivers[2].Knows = []int{-1, 1} }, api.ErrArg},
		"Knows falls":           {func(x *roster.Week) { x.Drivers[2].Knows = []int{2, 1} }, api.ErrArg},
		"Knows twice":           {func(x *roster.Week) { x.Drivers[2].Knows = []int{1, 1} }, api.ErrArg},
		"Knows a great one":     {func(x *roster.Week) { x.Drivers[2].Knows = []int{math.MaxInt, math.MinInt} }, api.ErrArg},
		"Leave on all days":     {func(x *roster.Week) { x.Drivers[2].Leave = upTo(2) }, api.OK},
		"Leave on the day 3":    {func(x *roster.Week) { x.Drivers[2].Leave = upTo(3) }, api.ErrArg},
		"Leave on the day 3, 4": {func(x *roster.Week) { x.Days, x.Drivers[2].Leave = 4, upTo(3) }, api.OK},
		"Leave below 0":         {func(x *roster.Week) { x.Drivers[2].Leave = []int{-1} }, api.ErrArg},
		"Leave twice":           {func(x *roster.Week) { x.Drivers[2].Leave = []int{0, 0} }, api.ErrArg},
		"Leave falls":           {func(x *roster.Week) { x.Drivers[2].Leave = []int{0, 2, 1} }, api.ErrArg},
		"Wish of all days":      {func(x *roster.Week) { x.Drivers[2].Wish = upTo(2) }, api.OK},
		"Wish of the day 3":     {func(x *roster.Week) { x.Drivers[2].Wish = upTo(3) }, api.ErrArg},
		"Wish below 0":          {func(x *roster.Week) { x.Drivers[2].Wish = []int{-1} }, api.ErrArg},
		"Wish twice":            {func(x *roster.Week) { x.Drivers[2].Wish = []int{2, 2} }, api.ErrArg},
		"Wish falls":            {func(x *roster.Week) { x.Drivers[2].Wish = []int{1, 0} }, api.ErrArg},
		"the last driver":       {func(x *roster.Week) { x.Drivers[2].Row = 15 }, api.ErrArg},
		"the last duty":         {func(x *roster.Week) { x.Duties[3].Route = 16 }, api.ErrArg},
		"Used as Hours":         {func(x *roster.Week) { x.Drivers[0].Used = 1200 }, api.OK},
		"Used above Hours":      {func(x *roster.Week) { x.Drivers[0].Used = 1201 }, api.ErrArg},
	} {
		week := exampleBy(x.change)
		if e := roster.CheckWeek(week); e != x.want {
			t.Errorf("%s: CheckWeek: %v, not %v", name, e, x.want)
		}
		checkErrors(t, name, week, x.want)
	}
}

func upTo(most int) []int {
	var list []int
	for number := range most + 1 {
		list = append(list, number)
	}
	return list
}

// P3.1: CheckWeek, each number.
func TestCheckNumbers(t *testing.T) {
	for name, x := range map[string]struct {
		number      func(x *roster.Week) *int
		least, most int
	}{
		"Days":  {func(x *roster.Week) *int { return &x.Days }, 1, 7},
		"Rest":  {func(x *roster.Week) *int { return &x.Rest }, 0, 3000},
		"Run":   {func(x *roster.Week) *int { return &x.Run }, 1, 14},
		"Hours": {func(x *roster.Week) *int { return &x.Hours }, 0, 20000},
		"Day":   {func(x *roster.Week) *int { return &x.Duties[0].Day }, 0, 0},
		"On":    {func(x *roster.Week) *int { return &x.Duties[0].On }, 0, 1439},
		"Route": {func(x *roster.Week) *int { return &x.Duties[0].Route }, 0, 15},
		"Off":   {func(x *roster.Week) *int { return &x.Drivers[0].Off }, -10080, 1440},
		"Row":   {func(x *roster.Week) *int { return &x.Drivers[0].Row }, 0, 14},
		"Used":  {func(x *roster.Week) *int { return &x.Drivers[0].Used }, 0, 0},
	} {
		for number, want := range map[int]api.Errno{
			x.least: api.OK, x.most: api.OK, x.least - 1: api.ErrArg, x.most + 1: api.ErrArg, math.MinInt: api.ErrArg, math.MaxInt: api.ErrArg,
		} {
			week := roster.Week{Days: 1, Run: 1, Duties: make([]roster.Duty, 1), Drivers: make([]roster.Driver, 1)}
			*x.number(&week) = number
			d := &week.Duties[0]
			d.Off = roster.Range{Lo: d.On, Hi: d.On}
			if e := roster.CheckWeek(week); e != want {
				t.Errorf("%s %d: %v, not %v", name, number, e, want)
			}
			checkErrors(t, name, week, want)
		}
	}
}

// checkErrors: each call has the error of the week, before its own one, and
// nothing beside it (R1, R2).
func checkErrors(t *testing.T, name string, x roster.Week, want api.Errno) {
	t.Helper()
	if want == api.OK {
		return
	}
	for _, list := range [][]int{nil, {0}, {-1}, {0, 2, 1, 0}, {-1, -1, -1, -1}, {9, 9}} {
		if l, e := roster.Breaks(x, list, []int{720, 1340, 800, 910}); l != nil || e != want {
			t.Errorf("%s: Breaks of %v: %v, %v", name, list, l, e)
		}
		for _, number := range []int{-1, 0} {
			if l, e := roster.Spares(x, list, number); l != nil || e != want {
				t.Errorf("%s: Spares of %v: %v, %v", name, list, l, e)
			}
		}
		if roster.ProveRoster(x, list, 0) || roster.ProveRoster(x, repeated(-1, len(x.Duties)), -1) {
			t.Errorf("%s: ProveRoster of %v", name, list)
		}
	}
	if l, g, e := roster.Best(x); l != nil || g != nil || e != want {
		t.Errorf("%s: Best: %v, %v, %v", name, l, g, e)
	}
	if l, n, e := roster.Most(x); l != nil || n != 0 || e != want {
		t.Errorf("%s: Most: %v, %d, %v", name, l, n, e)
	}
}

// R1: what is no roster, and is asked before the truth and the duty.
func TestNoRoster(t *testing.T) {
	for _, list := range [][]int{
		nil, {0, 2, 1}, {0, 2, 1, 0, 0}, {0, 2, 1, 3}, {0, 2, 1, -2}, {3, 2, 1, 0}, {0, 2, 1, math.MaxInt}, {math.MinInt, 2, 1, 0}, make([]int, 1000),
	} {
		for _, truth := range [][]int{nil, {720, 1340, 800, 910}} {
			if l, e := roster.Breaks(example(), list, truth); l != nil || e != api.ErrRange {
				t.Errorf("Breaks of %v: %v, %v", list, l, e)
			}
		}
		for _, number := range []int{0, 3, 4} {
			if l, e := roster.Spares(example(), list, number); l != nil || e != api.ErrRange {
				t.Errorf("Spares of %v: %v, %v", list, l, e)
			}
		}
		for _, many := range []int{math.MinInt, 0, 4} {
			if roster.ProveRoster(example(), list, many) {
				t.Errorf("ProveRoster of %v", list)
			}
		}
	}
	alone := exampleBy(func(x *roster.Week) { x.Drivers = nil })
	if l, e := roster.Breaks(alone, make([]int, 4), latest(alone)); l != nil || e != api.ErrRange {
		t.Errorf("Breaks without drivers: %v, %v", l, e)
	}
	if l, e := roster.Breaks(alone, repeated(-1, 4), latest(alone)); len(l) != 0 || e != api.OK {
		t.Errorf("Breaks of Nobody without drivers: %v, %v", l, e)
	}
}

// P3.1: ends that are no truth.
func TestNoTruth(t *testing.T) {
	for _, truth := range [][]int{
		nil, {720, 1340, 800}, {720, 1340, 800, 910, 0}, {721, 1340, 800, 910}, {699, 1340, 800, 910}, {720, 1299, 800, 910},
		{720, 1340, 801, 910}, {720, 1340, 799, 910}, {720, 1340, 800, 911}, {720, 1340, 800, 899}, {math.MinInt, 1340, 800, 910}, {720, 1340, 800, math.MaxInt},
	} {
		for _, list := range [][]int{{0, 2, 1, 0}, {0, 0, 0, 0}, {-1, -1, -1, -1}} {
			if l, e := roster.Breaks(example(), list, truth); l != nil || e != api.ErrRange {
				t.Errorf("Breaks of %v in %v: %v, %v", list, truth, l, e)
			}
		}
	}
	for _, truth := range [][]int{{700, 1300, 800, 900}, {720, 1340, 800, 910}, {710, 1301, 800, 909}} {
		mustBreaks(t, example(), []int{0, 2, 1, 0}, truth)
	}
}

// R1: the duty of Spares.
func TestNoDuty(t *testing.T) {
	for _, number := range []int{-1, 4, math.MinInt, math.MaxInt} {
		if l, e := roster.Spares(example(), []int{0, 2, 1, 0}, number); l != nil || e != api.ErrRange {
			t.Errorf("Spares for %d: %v, %v", number, l, e)
		}
	}
	if l, e := roster.Spares(easyWeek(1), nil, 0); l != nil || e != api.ErrRange {
		t.Errorf("Spares without duties: %v, %v", l, e)
	}
}
