package roster

import (
	"slices"

	"layover/api"
)

// share is what one driver may have: some duties, with the days of Wish that they
// grant.
type share struct {
	duties  []int
	granted int
}

// shares are all that a driver may have, whatever the others have.
func (p planned) shares(driver int) []share {
	var all []share
	var take func(from int, w worker, duties []int)
	take = func(from int, w worker, duties []int) {
		day := w.nextDay(from, w.mayTake)
		if day == p.Days {
			all = append(all, share{slices.Clone(duties), w.grants(duties)})
			return
		}
		take(day+1, w, duties)
		for duty := range w.dutiesOf(day, w.mayTake) {
			take(day+1, w.behind(duty), append(duties, duty))
		}
	}
	take(0, p.worker(driver), nil)
	return all
}

// grants is on how many days of Wish the driver has none of these duties.
func (w worker) grants(duties []int) int {
	granted := 0
	for _, day := range w.Wish {
		if !slices.ContainsFunc(duties, func(duty int) bool { return w.Duties[duty].Day == day }) {
			granted++
		}
	}
	return granted
}

// standing is where all drivers stand when it is the turn of one of them to have a
// share: the duties that those before have taken.
type standing struct {
	turn  int
	taken [api.MaxRosterDuties]bool
}

// behind is where they stand when the one whose turn it is has a share, and
// whether all of it is left.
func (s standing) behind(given share) (standing, bool) {
	s.turn++
	for _, duty := range given.duties {
		if s.taken[duty] {
			return standing{}, false
		}
		s.taken[duty] = true
	}
	return s, true
}

// outcome is what some drivers have in the end: how many duties they cover, how
// many days of Wish each one is granted, and who has which duty.
type outcome struct {
	covers  int
	granted [api.MaxRosterDrivers]int
	drivers [api.MaxRosterDuties]int
}

// nobodys is the outcome of no drivers.
func nobodys() outcome {
	var o outcome
	for duty := range o.drivers {
		o.drivers[duty] = Nobody
	}
	return o
}

// and is the outcome if one driver more has a share.
func (o outcome) and(driver int, given share) outcome {
	o.covers += len(given.duties)
	o.granted[driver] = given.granted
	for _, duty := range given.duties {
		o.drivers[duty] = driver
	}
	return o
}

func (o outcome) isBetter(other outcome) bool {
	switch {
	case o.covers != other.covers:
		return o.covers > other.covers
	case o.granted == other.granted:
		return false
	}
	return slices.Compare(o.granted[:], other.granted[:]) > 0
}

// list is the roster of an outcome.
func (o outcome) list(duties int) []int { return slices.Clone(o.drivers[:duties]) }

// grants has the days of Wish that are granted each driver.
func (o outcome) grants(drivers int) []int { return slices.Clone(o.granted[:drivers]) }

// best covers the most duties, and with these grants the most by seniority. What a
// driver may have does not depend on the others, but for the duties that they
// take; so the drivers have their shares in turn, and those that stand alike have
// the same outcome.
func (p planned) best() outcome {
	var shares [][]share
	for driver := range p.Drivers {
		shares = append(shares, p.shares(driver))
	}
	known := map[standing]outcome{}
	var give func(s standing) outcome
	give = func(s standing) outcome {
		if s.turn == len(p.Drivers) {
			return nobodys()
		}
		if found, ok := known[s]; ok {
			return found
		}
		best := outcome{covers: -1}
		for _, given := range shares[s.turn] {
			next, ok := s.behind(given)
			if !ok {
				continue
			}
			if found := give(next).and(s.turn, given); found.isBetter(best) {
				best = found
			}
		}
		known[s] = best
		return best
	}
	return give(standing{})
}
