package roster

import (
	"cmp"
	"iter"
	"slices"
)

// planned is a valid week that is planned in one truth: with the absolute time at
// which each duty ends.
type planned struct {
	Week
	ends []int
}

func newPlanned(w Week, truth []int) planned {
	p := planned{Week: w}
	for number, d := range w.Duties {
		p.ends = append(p.ends, later(truth[number], d.Day*minutesOfDay))
	}
	return p
}

// newPlannedLate is the week in the truth of all latest ends: what breaks nothing
// there is legal.
func newPlannedLate(w Week) planned {
	var truth []int
	for _, d := range w.Duties {
		truth = append(truth, d.Off.Hi)
	}
	return newPlanned(w, truth)
}

// later is the time that is so many minutes behind another one.
func later(time int, minutes ...int) int {
	for _, number := range minutes {
		time += number
	}
	return time
}

// begin is the absolute time at which a duty begins.
func (p planned) begin(duty int) int {
	d := p.Duties[duty]
	return later(d.On, d.Day*minutesOfDay)
}

// dutiesOf yields the duties of a day that pass a test, rising.
func (p planned) dutiesOf(day int, passes func(duty int) bool) iter.Seq[int] {
	return func(yield func(int) bool) {
		for number, d := range p.Duties {
			if d.Day == day && passes(number) && !yield(number) {
				return
			}
		}
	}
}

// nextDay is the first day, from one on, that has a duty that passes a test; or
// the number of days, if none has.
func (p planned) nextDay(from int, passes func(duty int) bool) int {
	day := from
days:
	for ; day < p.Days; day++ {
		for range p.dutiesOf(day, passes) {
			break days
		}
	}
	return day
}

// breaches are all that a roster breaks, in order.
func (p planned) breaches(roster []int) []Breach {
	var all []Breach
	for driver := range p.Drivers {
		has := func(duty int) bool { return roster[duty] == driver }
		found := p.breachesOf(driver, has)
		slices.SortFunc(found, func(a, b Breach) int {
			return cmp.Or(cmp.Compare(a.Kind, b.Kind), cmp.Compare(a.Duty, b.Duty))
		})
		all = append(all, found...)
	}
	return all
}

// breachesOf are those of one driver, day by day.
func (p planned) breachesOf(driver int, has func(duty int) bool) []Breach {
	var found []Breach
	w := p.worker(driver)
	for day := range p.Days {
		for duty := range p.dutiesOf(day, has) {
			for _, q := range questionsAboutDuty() {
				if q.breaks(w, duty) {
					found = append(found, Breach{q.kind, driver, duty})
				}
			}
			w = w.behind(duty)
		}
	}
	if w.isLong() {
		found = append(found, Breach{Kind: Long, Driver: driver})
	}
	return found
}

func (p planned) isLegal(roster []int) bool { return len(p.breaches(roster)) == 0 }

// spares are the drivers with whom, if one of them has the duty, the roster is legal.
func (p planned) spares(roster []int, duty int) []int {
	found := []int{}
	changed := slices.Clone(roster)
	for driver := range p.Drivers {
		changed[duty] = driver
		if p.isLegal(changed) {
			found = append(found, driver)
		}
	}
	return found
}

// covered is how many duties have a driver.
func covered(roster []int) int {
	duties := 0
	for _, driver := range roster {
		if driver != Nobody {
			duties++
		}
	}
	return duties
}
