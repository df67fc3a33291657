package run

import (
	"iter"
	"slices"
)

// shortage is a timetable for which a fleet may have too few buses. Many lists
// that are tried leave the same trips of one kind, so the buses that are needed
// for a choice of trips are kept.
type shortage struct {
	service
	fleet []int
	known map[chosen]int
}

// leftOut returns the first one of the shortest lists of trips without which the
// fleet is enough.
func (s service) leftOut(fleet []int) []int {
	short := shortage{service: s, fleet: fleet, known: map[chosen]int{}}
	for number := range len(s.Trips) {
		for out := range listsOf(len(s.Trips), number) {
			if short.isEnoughWithout(choose(out)) {
				return slices.Clone(out)
			}
		}
	}
	// Each fleet is enough for no trips.
	return allNumbers(len(s.Trips))
}

func (s shortage) isEnoughWithout(out chosen) bool {
	for kind, buses := range s.fleet {
		var looked chosen
		for number, trip := range s.Trips {
			looked[number] = trip.Kind == kind && !out[number]
		}
		if s.fewest(looked) > buses {
			return false
		}
	}
	return true
}

// fewest is the fewest buses for the trips that are looked at.
func (s shortage) fewest(looked chosen) int {
	if buses, ok := s.known[looked]; ok {
		return buses
	}
	buses := 0
	led := s.join(looked)
	for trip, wanted := range looked {
		if wanted && led[trip] == none {
			buses++
		}
	}
	s.known[looked] = buses
	return buses
}

// listsOf yields the rising lists of so many trips, the least list first. The
// lists share their memory.
func listsOf(trips, length int) iter.Seq[[]int] {
	return func(yield func([]int) bool) {
		list := make([]int, length)
		var fill func(place, from int) bool
		fill = func(place, from int) bool {
			if place == length {
				return yield(list)
			}
			for trip := from; trip < trips; trip++ {
				list[place] = trip
				if !fill(place+1, trip+1) {
					return false
				}
			}
			return true
		}
		fill(0, 0)
	}
}

func allNumbers(many int) []int {
	numbers := make([]int, many)
	for number := range many {
		numbers[number] = number
	}
	return numbers
}
