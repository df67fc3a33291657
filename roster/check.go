package roster

import (
	"layover/api"
)

// minutesOfDay are those of each day, whatever its number.
const minutesOfDay = 1440

// earliestOff is when a last duty before the week may have ended at the earliest.
const earliestOff = -7 * minutesOfDay

// every reports whether all elements of a list pass a test.
func every[E any](list []E, passes func(E) bool) bool {
	for _, element := range list {
		if !passes(element) {
			return false
		}
	}
	return true
}

func within(number, from, to int) bool { return from <= number && number <= to }

// isRising reports whether a list rises, and all its numbers are within bounds.
func isRising(list []int, from, to int) bool {
	return every(list, func(number int) bool {
		ok := within(number, from, to)
		from = number + 1
		return ok
	})
}

func (w Week) isValidLaw() bool {
	return within(w.Days, 1, api.MaxRosterDays) && within(w.Rest, 0, api.MaxRosterTime) &&
		within(w.Run, 1, api.MaxRosterRun) && within(w.Hours, 0, api.MaxRosterHours)
}

func (w Week) isValidDuty(d Duty) bool {
	return within(d.Day, 0, w.Days-1) && within(d.On, 0, minutesOfDay-1) &&
		within(d.Off.Lo, d.On, d.Off.Hi) && d.Off.Hi <= d.On+minutesOfDay &&
		within(d.Route, 0, api.MaxRosterRoute)
}

func (w Week) isValidDriver(d Driver) bool {
	return isRising(d.Knows, 0, api.MaxRosterRoute) &&
		isRising(d.Leave, 0, w.Days-1) && isRising(d.Wish, 0, w.Days-1) &&
		within(d.Off, earliestOff, minutesOfDay) &&
		within(d.Row, 0, api.MaxRosterRun) && within(d.Used, 0, w.Hours)
}

// checkRoster returns the error of a week with a roster, or OK.
func checkRoster(w Week, roster []int) api.Errno {
	if e := CheckWeek(w); e != api.OK {
		return e
	}
	if len(roster) != len(w.Duties) || !every(roster, w.mayHave) {
		return api.ErrRange
	}
	return api.OK
}

// mayHave reports whether there is such a driver of a duty, Nobody too.
func (w Week) mayHave(driver int) bool { return within(driver, Nobody, len(w.Drivers)-1) }

// isTruth reports whether there is an end for each duty that it can have.
func (w Week) isTruth(truth []int) bool {
	if len(truth) != len(w.Duties) {
		return false
	}
	for number, d := range w.Duties {
		if !within(truth[number], d.Off.Lo, d.Off.Hi) {
			return false
		}
	}
	return true
}
