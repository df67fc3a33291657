package run

import (
	"iter"
)

// service is a valid timetable that is cut.
type service struct {
	Table
	ready     func(t Table, trip Trip, minutes, place int) int
	followers [][]int
}

func newService(t Table) service {
	s := service{Table: t, ready: Table.readyAt}
	s.followers = make([][]int, len(t.Trips))
	for first, second := range s.pairs() {
		s.followers[first] = append(s.followers[first], second)
	}
	return s
}

// readyAt is when the bus of a trip that takes these minutes is ready at a place.
func (t Table) readyAt(trip Trip, minutes, place int) int {
	return trip.Start + minutes + t.Layover + t.Empty[trip.To][place]
}

// pairs yields each trip with each one that may follow it, both rising.
func (s service) pairs() iter.Seq2[int, int] {
	return func(yield func(int, int) bool) {
		for first := range s.Trips {
			for second := range s.Trips {
				if s.mayFollow(first, second) && !yield(first, second) {
					return
				}
			}
		}
	}
}

func (s service) mayFollow(first, second int) bool {
	before, behind := s.Trips[first], s.Trips[second]
	// Equal trips start together, so neither follows the other one; a trip is
	// equal to itself.
	if before == behind || before.Kind != behind.Kind {
		return false
	}
	return s.wait(before, behind, before.Least, before.Most) >= 0
}

// wait is how long the bus surely waits between two trips, if the first one
// takes one of these numbers of minutes; below 0 it may come too late.
func (s service) wait(before, behind Trip, minutes ...int) int {
	return behind.Start - s.ready(s.Table, before, greatest(minutes...), behind.From)
}

func greatest(minutes ...int) int {
	most := 0
	for _, number := range minutes {
		most = max(most, number)
	}
	return most
}
