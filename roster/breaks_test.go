package roster_test

import (
	"math/rand"
	"slices"
	"testing"

	"layover/roster"
)

// P3.1: Breaks of the example.
func TestBreaksExample(t *testing.T) {
	late, soon := []int{720, 1340, 800, 910}, []int{700, 1300, 800, 900}
	for _, x := range []struct {
		list, truth []int
		want        []roster.Breach
	}{
		{[]int{0, 0, 1, 1}, late, []roster.Breach{breach(roster.Double, 0, 1)}},
		{[]int{1, 2, 2, 2}, late, []roster.Breach{breach(roster.Away, 1, 0), breach(roster.Tired, 2, 2), breach(roster.Row, 2, 3), breach(roster.Long, 2, 0)}},
		{[]int{1, 2, 2, 2}, soon, []roster.Breach{breach(roster.Away, 1, 0), breach(roster.Tired, 2, 2), breach(roster.Row, 2, 3)}},
		{[]int{0, 2, 1, 0}, late, nil},
		{[]int{-1, -1, -1, -1}, late, nil},
		{[]int{0, 1, -1, -1}, soon, []roster.Breach{breach(roster.Unknown, 1, 1), breach(roster.Away, 1, 1)}},
		{[]int{2, 1, -1, 0}, soon, []roster.Breach{breach(roster.Unknown, 1, 1), breach(roster.Away, 1, 1), breach(roster.Tired, 2, 0)}},
	} {
		if l := mustBreaks(t, example(), x.list, x.truth); !slices.Equal(l, x.want) {
			t.Errorf("Breaks of %v in %v: %v, not %v", x.list, x.truth, l, x.want)
		}
	}
}

// checkBreaks: what one driver breaks, with all duties, at their latest ends.
func checkBreaks(t *testing.T, name string, x roster.Week, want ...roster.Breach) {
	t.Helper()
	if l := mustBreaks(t, x, make([]int, len(x.Duties)), latest(x)); !slices.Equal(l, want) {
		t.Errorf("%s: Breaks: %v, not %v", name, l, want)
	}
}

// P3.1: routes and leave, each duty of them.
func TestUnknownAndAway(t *testing.T) {
	duties := []roster.Duty{duty(2, 0, 10, 10, 15), duty(1, 0, 10, 10, 0), duty(0, 0, 10, 10, 1), duty(3, 0, 10, 10, 15)}
	for name, x := range map[string]struct {
		knows, leave []int
		want         []roster.Breach
	}{
		"knows all":     {[]int{0, 1, 15}, nil, nil},
		"knows nothing": {nil, nil, []roster.Breach{breach(roster.Unknown, 0, 0), breach(roster.Unknown, 0, 1), breach(roster.Unknown, 0, 2), breach(roster.Unknown, 0, 3)}},
		"not 15":        {[]int{0, 1, 14}, nil, []roster.Breach{breach(roster.Unknown, 0, 0), breach(roster.Unknown, 0, 3)}},
		"away":          {upTo(15), []int{0, 2, 6}, []roster.Breach{breach(roster.Away, 0, 0), breach(roster.Away, 0, 2)}},
		"both":          {[]int{0, 1}, []int{2, 3}, []roster.Breach{breach(roster.Unknown, 0, 0), breach(roster.Unknown, 0, 3), breach(roster.Away, 0, 0), breach(roster.Away, 0, 3)}},
		"another":       {[]int{1, 15}, []int{0, 4}, []roster.Breach{breach(roster.Unknown, 0, 1), breach(roster.Away, 0, 2)}},
	} {
		week := easyWeek(1, duties...)
		week.Drivers[0].Knows, week.Drivers[0].Leave = x.knows, x.leave
		checkBreaks(t, name, week, x.want...)
	}
}

// P3.1: the duty of the least index on a day is not Double, whenever it begins.
func TestDouble(t *testing.T) {
	checkBreaks(t, "apart", easyWeek(1, noons(0, 1, 2)...))
	checkBreaks(t, "twice", easyWeek(1, noons(1, 0, 1)...), breach(roster.Double, 0, 2))
	checkBreaks(t, "three", easyWeek(1, noons(1, 1, 1)...), breach(roster.Double, 0, 1), breach(roster.Double, 0, 2))
	checkBreaks(t, "earlier", easyWeek(1, duty(0, 900, 1000, 1000, 0), duty(0, 100, 200, 200, 0)), breach(roster.Double, 0, 1))
	x := easyWeek(2, noons(1, 1, 1)...)
	if l := mustBreaks(t, x, []int{0, 1, 0}, latest(x)); !slices.Equal(l, []roster.Breach{breach(roster.Double, 0, 2)}) {
		t.Errorf("two drivers: %v", l)
	}
	// Nobody is no driver who could work twice.
	if l := mustBreaks(t, x, []int{-1, 0, -1}, latest(x)); len(l) != 0 {
		t.Errorf("Nobody: %v", l)
	}
}

// P3.1: what is Double is not asked whether it is Tired or in a Row, and does not
// end a day's work.
func TestBesideDouble(t *testing.T) {
	x := easyWeek(1, duty(0, 0, 100, 100, 0), duty(0, 50, 1490, 1490, 0), duty(1, 100, 200, 200, 0), duty(1, 300, 310, 310, 0))
	x.Rest, x.Run = 1440, 1
	checkBreaks(t, "as much as Rest", x, breach(roster.Double, 0, 1), breach(roster.Double, 0, 3), breach(roster.Row, 0, 2))
	x.Rest, x.Run = 1441, 2
	checkBreaks(t, "less", x, breach(roster.Double, 0, 1), breach(roster.Double, 0, 3), breach(roster.Tired, 0, 2))
	x.Drivers[0].Off, x.Rest = 0, 1
	checkBreaks(t, "on the first day", x, breach(roster.Double, 0, 1), breach(roster.Double, 0, 3), breach(roster.Tired, 0, 0))
	x.Drivers[0].Off, x.Hours = -1, 100+1440+100+10-1
	checkBreaks(t, "its minutes count", x, breach(roster.Double, 0, 1), breach(roster.Double, 0, 3), breach(roster.Long, 0, 0))
	x.Hours++
	checkBreaks(t, "Hours more", x, breach(roster.Double, 0, 1), breach(roster.Double, 0, 3))
}

// P3.1: rest from the duty before it, or from the driver's Off.
func TestTired(t *testing.T) {
	apart := []roster.Duty{duty(3, 400, 1000, 1340, 0), duty(4, 400, 500, 500, 0)}
	for name, x := range map[string]struct {
		rest, off int
		duties    []roster.Duty
		want      []roster.Breach
	}{
		// Example 3 of the document: 500 minutes.
		"500 minutes, Rest 500":  {500, -10080, apart, nil},
		"500 minutes, Rest 501":  {501, -10080, apart, []roster.Breach{breach(roster.Tired, 0, 1)}},
		"the first one":          {600, 300 - 600, []roster.Duty{duty(0, 300, 300, 300, 0)}, nil},
		"the first one, Tired":   {600, 300 - 599, []roster.Duty{duty(0, 300, 300, 300, 0)}, []roster.Breach{breach(roster.Tired, 0, 0)}},
		"Off on the first day":   {0, 1440, []roster.Duty{duty(1, 0, 10, 10, 0)}, nil},
		"begins before Off":      {0, 1440, []roster.Duty{duty(0, 1439, 1439, 1439, 0)}, []roster.Breach{breach(roster.Tired, 0, 0)}},
		"Off is not asked twice": {600, -600, []roster.Duty{duty(0, 0, 0, 0, 0), duty(1, 0, 0, 0, 0)}, nil},
		"days between":           {3000, -10080, []roster.Duty{duty(0, 0, 1320, 1320, 0), duty(3, 0, 0, 0, 0)}, nil},
		"days between, Tired":    {3000, -10080, []roster.Duty{duty(0, 0, 1320, 1321, 0), duty(3, 0, 0, 0, 0)}, []roster.Breach{breach(roster.Tired, 0, 1)}},
		"ends the day after":     {0, -10080, []roster.Duty{duty(0, 1400, 1400, 2840, 0), duty(1, 1400, 1400, 1400, 0)}, nil},
		"ends behind the next":   {0, -10080, []roster.Duty{duty(0, 1400, 1400, 2840, 0), duty(1, 1399, 1399, 1399, 0)}, []roster.Breach{breach(roster.Tired, 0, 1)}},
		"in another order":       {600, -10080, []roster.Duty{duty(1, 0, 0, 0, 0), duty(0, 900, 900, 900, 0)}, []roster.Breach{breach(roster.Tired, 0, 0)}},
		"all of them":            {3000, -600, noons(2, 1, 0), []roster.Breach{breach(roster.Tired, 0, 0), breach(roster.Tired, 0, 1), breach(roster.Tired, 0, 2)}},
		// The duty before it is that of the last day, not one that ends later.
		"a long one before": {100, -10080, []roster.Duty{duty(0, 1439, 2879, 2879, 0), duty(1, 0, 0, 0, 0), duty(2, 0, 0, 0, 0)}, []roster.Breach{breach(roster.Tired, 0, 1)}},
	} {
		week := easyWeek(1, x.duties...)
		week.Rest, week.Drivers[0].Off = x.rest, x.off
		checkBreaks(t, name, week, x.want...)
	}
}

// P3.1: days in a row, with those before the week.
func TestRow(t *testing.T) {
	for name, x := range map[string]struct {
		row, run int
		days     []int
		broken   []int
	}{
		"as many as Run":                {0, 3, []int{0, 1, 2}, nil},
		"one more":                      {0, 3, []int{0, 1, 2, 3}, []int{3}},
		"as long as it lasts":           {0, 3, []int{0, 1, 2, 3, 4, 5, 6}, []int{3, 4, 5, 6}},
		"a day between":                 {0, 3, []int{0, 1, 2, 4, 5, 6}, nil},
		"a row behind another one":      {0, 2, []int{0, 1, 2, 4, 5, 6}, []int{2, 5}},
		"before the week":               {1, 3, []int{0, 1}, nil},
		"one more, before the week":     {1, 3, []int{0, 1, 2}, []int{2}},
		"too many before the week":      {9, 3, []int{0, 1}, []int{0, 1}},
		"just Run before the week":      {3, 3, []int{0, 2}, []int{0}},
		"before the week, not on it":    {9, 3, []int{1, 2, 3}, nil},
		"before the week, one too many": {9, 3, []int{1, 2, 3, 4}, []int{3}},
		"Run 1":                         {0, 1, []int{0, 2, 4, 6}, nil},
		"Run 1, in a row":               {0, 1, []int{1, 2}, []int{1}},
		"Run 14":                        {7, 14, []int{0, 1, 2, 3, 4, 5, 6}, nil},
		"Run 14, Row 8":                 {8, 14, []int{0, 1, 2, 3, 4, 5, 6}, []int{6}},
		"in another order":              {0, 2, []int{3, 2, 1}, []int{0}},
		"Row 14 and nothing":            {14, 1, nil, nil},
	} {
		week := easyWeek(1, noons(x.days...)...)
		week.Run, week.Drivers[0].Row = x.run, x.row
		var want []roster.Breach
		for _, number := range x.broken {
			want = append(want, breach(roster.Row, 0, number))
		}
		checkBreaks(t, name, week, want...)
	}
}

// P3.1: Row is told with the first duty of a day, Double ones with the others.
func TestRowOfDouble(t *testing.T) {
	x := easyWeek(1, noons(1, 0, 1)...)
	x.Run = 1
	checkBreaks(t, "the first one", x, breach(roster.Double, 0, 2), breach(roster.Row, 0, 0))
}

// P3.1: minutes, with those that count already.
func TestLong(t *testing.T) {
	x := easyWeek(1, duty(3, 100, 150, 200, 0), duty(5, 600, 600, 800, 0))
	x.Hours, x.Drivers[0].Used = 350, 50
	checkBreaks(t, "as many", x)
	x.Hours = 349
	checkBreaks(t, "more", x, breach(roster.Long, 0, 0))
	if l := mustBreaks(t, x, []int{0, 0}, []int{199, 800}); len(l) != 0 {
		t.Errorf("ends earlier: %v", l)
	}
	if l := mustBreaks(t, x, []int{-1, 0}, latest(x)); len(l) != 0 {
		t.Errorf("one duty: %v", l)
	}
	x.Drivers[0].Used = x.Hours
	if l := mustBreaks(t, x, []int{-1, -1}, latest(x)); len(l) != 0 {
		t.Errorf("no duty: %v", l)
	}
	if l := mustBreaks(t, x, []int{-1, 0}, []int{200, 601}); !slices.Equal(l, []roster.Breach{breach(roster.Long, 0, 0)}) {
		t.Errorf("one minute: %v", l)
	}
}

// P3.1: in order by Driver, then by Kind, then by Duty.
func TestBreachesInOrder(t *testing.T) {
	forSomeRosters(t, func(t *testing.T, r *rand.Rand, x roster.Week, list []int) {
		found := mustBreaks(t, x, list, anyTruth(r, x))
		for number := range len(found) - 1 {
			a, b := found[number], found[number+1]
			if slices.Compare([]int{a.Driver, int(a.Kind), a.Duty}, []int{b.Driver, int(b.Kind), b.Duty}) >= 0 {
				t.Errorf("Breaks of %v in %v: %v", list, x, found)
			}
		}
	})
}

// P3.1: Breaks is what the definition says, in each truth.
func TestBreaksByDefinition(t *testing.T) {
	kinds := map[uint8]int{}
	nothing := 0
	forSomeRosters(t, func(t *testing.T, r *rand.Rand, x roster.Week, list []int) {
		for truth := range truths(x) {
			l, want := mustBreaks(t, x, list, truth), breaches(x, list, truth)
			if !slices.Equal(l, want) {
				t.Fatalf("Breaks of %v at %v in %v: %v, not %v", list, truth, x, l, want)
			}
			for _, b := range l {
				kinds[b.Kind]++
			}
			if len(l) == 0 {
				nothing++
			}
		}
	})
	for kind := roster.Unknown; kind <= roster.Long; kind++ {
		if kinds[kind] < 100 || nothing < 500 {
			t.Errorf("kind %d was broken %d times, nothing was %d times", kind, kinds[kind], nothing)
		}
	}
}
