package run

import (
	"layover/api"
)

// every reports whether all elements of a list pass a test.
func every[E any](list []E, passes func(E) bool) bool {
	for _, element := range list {
		if !passes(element) {
			return false
		}
	}
	return true
}

func within(number, from, to int) bool { return from <= number && number <= to }

func validMinutes(minutes int) bool { return within(minutes, 0, api.MaxRunTime) }

func validBuses(buses int) bool { return within(buses, 0, api.MaxRunTrips) }

func (t Table) validPlaces() bool {
	if !within(t.Places, 1, api.MaxRunPlaces) || !validMinutes(t.Layover) || len(t.Empty) != t.Places {
		return false
	}
	for place := range t.Places {
		minutes := t.Empty[place]
		if len(minutes) != t.Places || minutes[place] != 0 || !every(minutes, validMinutes) {
			return false
		}
	}
	return true
}

func (t Table) validPlace(place int) bool { return within(place, 0, t.Places-1) }

func (t Table) validTrip(trip Trip) bool {
	return t.validPlace(trip.From) && t.validPlace(trip.To) &&
		within(trip.Start, 0, api.MaxRunDay) &&
		within(trip.Most, 1, api.MaxRunTime) && within(trip.Least, 1, trip.Most) &&
		within(trip.Kind, 0, api.MaxRunKinds-1)
}
