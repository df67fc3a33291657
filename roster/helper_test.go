package roster_test

import (
	"iter"
	"math/rand"
	"slices"
	"testing"

	"layover/api"
	"layover/roster"
)

func duty(day, on, low, high, route int) roster.Duty {
	return roster.Duty{Day: day, On: on, Off: roster.Range{Lo: low, Hi: high}, Route: route}
}

func breach(kind uint8, driver, duty int) roster.Breach {
	return roster.Breach{Kind: kind, Driver: driver, Duty: duty}
}

// example is the week of the chapter's examples.
func example() roster.Week {
	return roster.Week{
		Days: 3, Rest: 600, Run: 2, Hours: 1200,
		Duties: []roster.Duty{duty(0, 300, 700, 720, 1), duty(0, 900, 1300, 1340, 2), duty(1, 400, 800, 800, 1), duty(2, 500, 900, 910, 1)},
		Drivers: []roster.Driver{
			{Knows: []int{1, 2}, Wish: []int{1}, Off: -700},
			{Knows: []int{1}, Leave: []int{0}, Wish: []int{2}, Off: -5000},
			{Knows: []int{1, 2}, Off: -200},
		},
	}
}

func exampleBy(change func(x *roster.Week)) roster.Week {
	x := example()
	change(&x)
	return x
}

// easyWeek is a week whose law forbids as little as it can, with drivers who know
// the route 0.
func easyWeek(drivers int, duties ...roster.Duty) roster.Week {
	x := roster.Week{Days: api.MaxRosterDays, Run: api.MaxRosterRun, Hours: api.MaxRosterHours, Duties: duties}
	for range drivers {
		x.Drivers = append(x.Drivers, roster.Driver{Knows: []int{0}, Off: -10080})
	}
	return x
}

// noons are duties of 100 minutes, one on each of these days.
func noons(days ...int) []roster.Duty {
	var duties []roster.Duty
	for _, day := range days {
		duties = append(duties, duty(day, 720, 820, 820, 0))
	}
	return duties
}

func cloneWeek(x roster.Week) roster.Week {
	x.Duties, x.Drivers = slices.Clone(x.Duties), slices.Clone(x.Drivers)
	for number, d := range x.Drivers {
		d.Knows, d.Leave, d.Wish = slices.Clone(d.Knows), slices.Clone(d.Leave), slices.Clone(d.Wish)
		x.Drivers[number] = d
	}
	return x
}

func sameWeek(a, b roster.Week) bool {
	return [4]int{a.Days, a.Rest, a.Run, a.Hours} == [4]int{b.Days, b.Rest, b.Run, b.Hours} &&
		slices.Equal(a.Duties, b.Duties) && slices.EqualFunc(a.Drivers, b.Drivers, sameDriver)
}

func sameDriver(a, b roster.Driver) bool {
	return slices.Equal(a.Knows, b.Knows) && slices.Equal(a.Leave, b.Leave) && slices.Equal(a.Wish, b.Wish) &&
		[3]int{a.Off, a.Row, a.Used} == [3]int{b.Off, b.Row, b.Used}
}

func latest(x roster.Week) []int {
	var truth []int
	for _, d := range x.Duties {
		truth = append(truth, d.Off.Hi)
	}
	return truth
}

// anyTruth has any end for each duty.
func anyTruth(r *rand.Rand, x roster.Week) []int {
	var truth []int
	for _, d := range x.Duties {
		truth = append(truth, d.Off.Lo+r.Intn(d.Off.Hi-d.Off.Lo+1))
	}
	return truth
}

// lists yields all lists with numbers from the least to the most of each place;
// they share their memory.
func lists(least, most []int) iter.Seq[[]int] {
	return func(yield func([]int) bool) {
		list := make([]int, len(least))
		var fill func(place int) bool
		fill = func(place int) bool {
			if place == len(list) {
				return yield(list)
			}
			for number := least[place]; number <= most[place]; number++ {
				list[place] = number
				if !fill(place + 1) {
					return false
				}
			}
			return true
		}
		fill(0)
	}
}

// rosters yields all rosters of a week.
func rosters(x roster.Week) iter.Seq[[]int] {
	return lists(repeated(roster.Nobody, len(x.Duties)), repeated(len(x.Drivers)-1, len(x.Duties)))
}

// truths yields all truths of a week.
func truths(x roster.Week) iter.Seq[[]int] {
	var least []int
	for _, d := range x.Duties {
		least = append(least, d.Off.Lo)
	}
	return lists(least, latest(x))
}

func repeated(number, times int) []int {
	var list []int
	for range times {
		list = append(list, number)
	}
	return list
}

func anyRoster(r *rand.Rand, x roster.Week) []int {
	var list []int
	for range x.Duties {
		list = append(list, r.Intn(len(x.Drivers)+1)-1)
	}
	return list
}

// firstOn is the first duty of a driver on a day, or Nobody.
func firstOn(x roster.Week, list []int, driver, day int) int {
	for number, d := range x.Duties {
		if list[number] == driver && d.Day == day {
			return number
		}
	}
	return roster.Nobody
}

// breaksIn is the definition of what a driver breaks with a duty in a truth.
func breaksIn(x roster.Week, list, truth []int, b roster.Breach) bool {
	who, d := x.Drivers[b.Driver], x.Duties[b.Duty]
	first := firstOn(x, list, b.Driver, d.Day)
	switch b.Kind {
	case roster.Unknown:
		return !slices.Contains(who.Knows, d.Route)
	case roster.Away:
		return slices.Contains(who.Leave, d.Day)
	case roster.Double:
		return first != b.Duty
	case roster.Tired:
		end := who.Off
		for day := range d.Day {
			if before := firstOn(x, list, b.Driver, day); before != roster.Nobody {
				end = 1440*day + truth[before]
			}
		}
		return first == b.Duty && 1440*d.Day+d.On-end < x.Rest
	}
	row := 0
	for day := d.Day; day >= 0 && firstOn(x, list, b.Driver, day) != roster.Nobody; day-- {
		row++
		if day == 0 {
			row += who.Row
		}
	}
	return first == b.Duty && row > x.Run
}

// breaches is the definition of all that a roster breaks in a truth.
func breaches(x roster.Week, list, truth []int) []roster.Breach {
	var found []roster.Breach
	for driver, who := range x.Drivers {
		minutes := who.Used
		for kind := range roster.Long {
			for number := range x.Duties {
				if b := breach(kind, driver, number); list[number] == driver && breaksIn(x, list, truth, b) {
					found = append(found, b)
				}
			}
		}
		for number, d := range x.Duties {
			if list[number] == driver {
				minutes += truth[number] - d.On
			}
		}
		if minutes > x.Hours {
			found = append(found, breach(roster.Long, driver, 0))
		}
	}
	return found
}

func isLegal(x roster.Week, list []int) bool { return len(breaches(x, list, latest(x))) == 0 }

func covers(list []int) int {
	duties := 0
	for _, driver := range list {
		if driver >= 0 {
			duties++
		}
	}
	return duties
}

// granted is the definition of what a roster grants each driver.
func granted(x roster.Week, list []int) []int {
	var days []int
	for driver, who := range x.Drivers {
		free := 0
		for _, day := range who.Wish {
			if firstOn(x, list, driver, day) == roster.Nobody {
				free++
			}
		}
		days = append(days, free)
	}
	return days
}

// few are some of the numbers from 0 on, rising.
func few(r *rand.Rand, numbers, one int) []int {
	var list []int
	for number := range numbers {
		if r.Intn(one) == 0 {
			list = append(list, number)
		}
	}
	return list
}

// randomWeek has numbers that are near to multiples of some minutes, so that many
// meet the law's.
func randomWeek(r *rand.Rand, duties, drivers int) roster.Week {
	const step = 240
	x := roster.Week{
		Days: 1 + r.Intn(5), Rest: step * r.Intn(6), Run: 1 + r.Intn(4), Hours: step * (2 + r.Intn(10)),
	}
	for range duties {
		on := step * r.Intn(6)
		low := on + step*r.Intn(4) + r.Intn(2)
		on -= min(on, r.Intn(2))
		x.Duties = append(x.Duties, duty(r.Intn(x.Days), on, low, low+r.Intn(3), r.Intn(3)))
		if r.Intn(20) == 0 {
			x.Duties[len(x.Duties)-1].Off.Hi = on + 1440
			x.Duties[len(x.Duties)-1].Off.Lo = on + 1438
		}
	}
	for range drivers {
		d := roster.Driver{Off: step*(r.Intn(12)-9) + r.Intn(2), Row: r.Intn(3) * r.Intn(2), Used: min(x.Hours, step*r.Intn(3))}
		d.Leave, d.Wish = few(r, x.Days, 6), few(r, x.Days, 2)
		for route := range 3 {
			if r.Intn(5) > 0 {
				d.Knows = append(d.Knows, route)
			}
		}
		x.Drivers = append(x.Drivers, d)
	}
	return x
}

// forRandomWeeks calls check for many weeks, always the same ones.
func forRandomWeeks(t *testing.T, check func(t *testing.T, r *rand.Rand, x roster.Week)) {
	t.Helper()
	r := rand.New(rand.NewSource(3))
	for number := range 300 {
		check(t, r, randomWeek(r, number%6, number%5))
		if t.Failed() {
			return
		}
	}
}

// forSomeRosters calls check for some rosters of many weeks, each third of them
// without what makes it break something.
func forSomeRosters(t *testing.T, check func(t *testing.T, r *rand.Rand, x roster.Week, list []int)) {
	t.Helper()
	forRandomWeeks(t, func(t *testing.T, r *rand.Rand, x roster.Week) {
		for number := range 6 {
			list := anyRoster(r, x)
			for place := 0; number%3 == 0 && place < len(list) && !isLegal(x, list); place++ {
				list[place] = roster.Nobody
			}
			check(t, r, x, list)
		}
	})
}

func mustBreaks(t *testing.T, x roster.Week, list, truth []int) []roster.Breach {
	t.Helper()
	found, e := roster.Breaks(x, list, truth)
	if e != api.OK {
		t.Fatalf("Breaks of %v in %v: %v", list, x, e)
	}
	return found
}

// mustLegal is whether a roster is legal, as ProveRoster has it.
func mustLegal(x roster.Week, list []int) bool { return roster.ProveRoster(x, list, 0) }

// mustBest has no roster if there is none.
func mustBest(t *testing.T, x roster.Week) (list, grants []int, ok bool) {
	t.Helper()
	list, grants, e := roster.Best(x)
	if e != api.OK && (e != api.ErrFail || list != nil || grants != nil) {
		t.Fatalf("Best of %v: %v, %v, %v", x, list, grants, e)
	}
	return list, grants, e == api.OK
}

func mustMost(t *testing.T, x roster.Week) (list []int, many int) {
	t.Helper()
	list, many, e := roster.Most(x)
	if e != api.OK {
		t.Fatalf("Most of %v: %v", x, e)
	}
	return list, many
}

func mustSpares(t *testing.T, x roster.Week, list []int, number int) []int {
	t.Helper()
	drivers, e := roster.Spares(x, list, number)
	if e != api.OK {
		t.Fatalf("Spares of %v for %d in %v: %v", list, number, x, e)
	}
	return drivers
}
