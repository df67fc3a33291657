package duty

import (
	"layover/api"
)

// every reports whether all elements of a list pass a test.
func every[E any](list []E, passes func(E) bool) bool {
	for _, element := range list {
		if !passes(element) {
			return false
		}
	}
	return true
}

func within(number, from, to int) bool { return from <= number && number <= to }

func isValidTime(minutes int) bool { return within(minutes, 0, api.MaxDutyTime) }

func isValidWeight(weight int) bool { return within(weight, 0, api.MaxDutyWeight) }

func (l Law) isValid() bool {
	minutes := []int{l.Piece, l.Drive, l.Spread, l.Break, l.On, l.Off, l.Least}
	return every(minutes, isValidTime) && l.Break > 0 && within(l.Pieces, 1, api.MaxDutyPieces)
}

func (d Day) hasValidWalk() bool {
	for place, minutes := range d.Walk {
		if len(minutes) != len(d.Walk) || minutes[place] != 0 || !every(minutes, isValidTime) {
			return false
		}
	}
	return len(d.Walk) > 0
}

func (d Day) isValidBlock(block []Relief) bool {
	before := Range{}
	return len(block) >= 2 && every(block, func(r Relief) bool {
		inOrder := before.Lo <= r.At.Lo && before.Hi <= r.At.Hi
		before = r.At
		return inOrder && d.isValidRelief(r)
	})
}

func (d Day) isValidRelief(r Relief) bool {
	return within(r.Place, 0, len(d.Walk)-1) &&
		within(r.At.Hi, 0, api.MaxDutyTime) && within(r.At.Lo, 0, r.At.Hi)
}

// countSegments is asked of days that are not valid, too.
func (d Day) countSegments() int {
	segments := 0
	for _, block := range d.Blocks {
		segments += max(len(block)-1, 0)
	}
	return segments
}

// isTruth reports whether there is a time for each relief that it can have, and
// none goes back.
func (d Day) isTruth(times [][]int) bool {
	if len(times) != len(d.Blocks) {
		return false
	}
	for number, block := range d.Blocks {
		if !isTruthOf(block, times[number]) {
			return false
		}
	}
	return true
}

func isTruthOf(block []Relief, times []int) bool {
	if len(times) != len(block) {
		return false
	}
	before := 0
	for number, r := range block {
		if !within(times[number], max(before, r.At.Lo), r.At.Hi) {
			return false
		}
		before = times[number]
	}
	return true
}
