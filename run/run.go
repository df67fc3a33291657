// Package run cuts timetables into the runs of the fewest buses: see shared/doc/01-run.md.
package run

import (
	"layover/api"
)

// Trip goes from a place at the minute Start to another one, in Least to Most
// minutes, with a bus of a Kind.
type Trip struct{ From, To, Start, Least, Most, Kind int }

// Table is a timetable: its places, the minutes of layover behind a trip, the
// minutes from each place to each one without riders, and its trips.
type Table struct {
	Places, Layover int
	Empty           [][]int
	Trips           []Trip
}

// CheckTable returns the error of the timetable, or OK.
func CheckTable(t Table) api.Errno {
	switch {
	case len(t.Trips) > api.MaxRunTrips:
		return api.ErrLimit
	case !t.validPlaces(), !every(t.Trips, t.validTrip):
		return api.ErrArg
	}
	return api.OK
}

// Follows returns for each trip the trips that may follow it, rising.
func Follows(t Table) ([][]int, api.Errno) {
	if e := CheckTable(t); e != api.OK {
		return nil, e
	}
	return newService(t).followers, api.OK
}

// Cut returns a cutting into as many blocks as the fewest buses.
func Cut(t Table) ([][]int, api.Errno) {
	if e := CheckTable(t); e != api.OK {
		return nil, e
	}
	s := newService(t)
	return s.blocks(s.join(s.allTrips())), api.OK
}

// Cover returns a cover that proves the fewest buses.
func Cover(t Table) (ahead, behind []int, e api.Errno) {
	if e := CheckTable(t); e != api.OK {
		return nil, nil, e
	}
	s := newService(t)
	ahead, behind = s.cover(s.join(s.allTrips()))
	return ahead, behind, api.OK
}

// ProveCut reports whether the timetable is valid, and the blocks are a cutting.
func ProveCut(t Table, blocks [][]int) bool {
	return CheckTable(t) == api.OK && newService(t).isCutting(blocks)
}

// ProveCover reports whether the timetable is valid, and the lists are a cover
// that proves the number of buses.
func ProveCover(t Table, ahead, behind []int, buses int) bool {
	return CheckTable(t) == api.OK && newService(t).isCover(ahead, behind) &&
		buses <= len(t.Trips)-len(ahead)-len(behind)
}

// Play returns for each block the minutes that its bus waits before each trip
// but the first one, if the trips take these times.
func Play(t Table, blocks [][]int, times []int) ([][]int, api.Errno) {
	if e := CheckTable(t); e != api.OK {
		return nil, e
	}
	s := newService(t)
	if !s.isCutting(blocks) || !s.isTruth(times) {
		return nil, api.ErrRange
	}
	waits := make([][]int, len(blocks))
	for number, block := range blocks {
		waits[number] = s.waits(block, times)
	}
	return waits, api.OK
}

// Lacks returns the trips that are left out if there are no more buses than the
// fleet has of each kind.
func Lacks(t Table, fleet []int) ([]int, api.Errno) {
	if e := CheckTable(t); e != api.OK {
		return nil, e
	}
	if len(fleet) != api.MaxRunKinds || !every(fleet, validBuses) {
		return nil, api.ErrRange
	}
	return newService(t).leftOut(fleet), api.OK
}
