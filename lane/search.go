package lane

import (
	"iter"
	"slices"

	"layover/api"
)

// never stands for the Turn of a bus that breaks down: behind all others.
const never = api.MaxLaneDay + 1

// standing is where a search of one lane stands, which goes from the bus that
// comes last to those that come earlier: the buses that are left, the first Turn
// of those behind, and how many of those that are left may break down.
type standing struct {
	left  chosen
	first int
	down  int
}

// without is where the search stands if one bus more is behind, with its Turn.
func (s standing) without(bus, turn int) standing {
	s.left[bus] = false
	s.first = min(s.first, turn)
	if turn == never {
		s.down--
	}
	return s
}

// outcome is how some buses stand: how many of them are shunted, their places, and
// which ones break down. Of all other buses it has 0 and false.
type outcome struct {
	shunts int
	places places
	down   chosen
}

// and is the outcome of the buses of both.
func (o outcome) and(others outcome) outcome {
	o.shunts += others.shunts
	for bus := range o.places {
		o.places[bus] += others.places[bus]
		o.down[bus] = o.down[bus] || others.down[bus]
	}
	return o
}

// search finds the greatest number of shunts. What it has found of some buses of
// one lane is known for all lanes that have them: minutes that can be found for
// each lane alone can be found for all together, and a bus is in the way of none
// in another lane.
type search struct {
	Yard
	coming
	known map[standing]outcome
}

func newSearch(y Yard) search {
	return search{Yard: y, coming: newComing(), known: map[standing]outcome{}}
}

// last yields the buses that may come last of some.
func (s search) last(some chosen) iter.Seq[int] {
	return func(yield func(int) bool) {
	buses:
		for bus, b := range s.Buses {
			if !some[bus] {
				continue buses
			}
			for other, o := range s.Buses {
				if some[other] && !s.late(b, o) {
					continue buses
				}
			}
			if !yield(bus) {
				return
			}
		}
	}
}

// worstOf is the outcome with the most shunts of the buses that are left.
func (s search) worstOf(at standing) outcome {
	if at.left == (chosen{}) {
		return outcome{}
	}
	if found, ok := s.known[at]; ok {
		return found
	}
	worst := outcome{shunts: -1}
	for bus := range s.last(at.left) {
		worst = worse(worst, s.worstWith(at, bus, s.Buses[bus].Turn))
		if at.down > 0 {
			worst = worse(worst, s.worstWith(at, bus, never))
		}
	}
	s.known[at] = worst
	return worst
}

// worstWith is the worst outcome if a bus comes last of those that are left, with
// this Turn.
func (s search) worstWith(at standing, bus, turn int) outcome {
	next := at.without(bus, turn)
	found := s.worstOf(next)
	for _, earlier := range next.left {
		if earlier {
			found.places[bus]++
		}
	}
	found.down[bus] = turn == never
	if at.first < turn {
		found.shunts++
	}
	return found
}

// worse is the outcome with more shunts, the first one of two with as many.
func worse(a, b outcome) outcome {
	if b.shunts > a.shunts {
		return b
	}
	return a
}

// worst is the outcome with the most shunts of all lanes: some of those that may
// break down are in the first one, the others in those behind it.
func (s search) worst(lanes []int) outcome {
	var worstFrom func(lane, down int) outcome
	worstFrom = func(lane, down int) outcome {
		if lane == len(s.Room) {
			return outcome{}
		}
		in := busesIn(lanes, lane)
		worst := outcome{shunts: -1}
		for here := range down + 1 {
			found := s.worstOf(standing{left: in, first: never, down: here})
			worst = worse(worst, found.and(worstFrom(lane+1, down-here)))
		}
		return worst
	}
	return worstFrom(0, s.Broken)
}

func busesIn(lanes []int, lane int) chosen {
	var in chosen
	for bus, number := range lanes {
		in[bus] = number == lane
	}
	return in
}

// best has the best lanes of a yard with room, and their worst number.
func (s search) best() (lanes []int, many int) {
	// No lanes have so many shunts.
	many = len(s.Buses) + 1
	tried := make([]int, len(s.Buses))
	room := slices.Clone(s.Room)
	var try func(bus int)
	try = func(bus int) {
		if bus == len(tried) {
			if shunts := s.worst(tried).shunts; shunts < many {
				lanes, many = slices.Clone(tried), shunts
			}
			return
		}
		for lane := range room {
			if room[lane] > 0 {
				tried[bus] = lane
				room[lane]--
				try(bus + 1)
				room[lane]++
			}
		}
	}
	try(0)
	return lanes, many
}
