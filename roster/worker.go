package roster

import (
	"slices"
)

// worker is a driver of a week that is planned, where they stand behind some
// duties: the last day on which they work, on how many days in a row up to it,
// when their last duty ended, and how many minutes count.
type worker struct {
	planned
	Driver
	day, row, end, used int
}

// worker is a driver where they stand before the week.
func (p planned) worker(driver int) worker {
	d := p.Drivers[driver]
	return worker{planned: p, Driver: d, day: -1, row: d.Row, end: d.Off, used: d.Used}
}

// question is one of those about the next duty of a driver.
type question struct {
	kind   uint8
	breaks func(w worker, duty int) bool
}

func questionsAboutDuty() []question {
	return []question{
		{Unknown, worker.isUnknown}, {Away, worker.isAway}, {Double, worker.isDouble}, {Tired, worker.isTired}, {Row, worker.isRow},
	}
}

func (w worker) isUnknown(duty int) bool { return !slices.Contains(w.Knows, w.Duties[duty].Route) }

func (w worker) isAway(duty int) bool { return slices.Contains(w.Leave, w.Duties[duty].Day) }

func (w worker) isDouble(duty int) bool { return w.Duties[duty].Day == w.day }

func (w worker) isTired(duty int) bool {
	return !w.isDouble(duty) && w.begin(duty) < later(w.end, w.Rest)
}

func (w worker) isRow(duty int) bool {
	return !w.isDouble(duty) && w.rowWith(duty) > w.Run
}

// rowWith is on how many days in a row they work up to the day of a duty.
func (w worker) rowWith(duty int) int {
	if w.Duties[duty].Day == w.day+1 {
		return w.row + 1
	}
	return 1
}

// isLong is no question about a duty: it is asked behind the last one.
func (w worker) isLong() bool { return w.used > w.Hours }

// behind is where the driver stands behind a duty, too. Rest is not asked from the
// end of a duty that is Double.
func (w worker) behind(duty int) worker {
	next := w
	next.used += w.ends[duty] - w.begin(duty)
	if !w.isDouble(duty) {
		next.day, next.row, next.end = w.Duties[duty].Day, w.rowWith(duty), w.ends[duty]
	}
	return next
}

// mayTake reports whether a duty breaks nothing behind those that they have. No
// later duty changes this, so a driver who may take each one is legal.
func (w worker) mayTake(duty int) bool {
	breaksNothing := func(q question) bool { return !q.breaks(w, duty) }
	return every(questionsAboutDuty(), breaksNothing) && !w.behind(duty).isLong()
}
