package duty

import (
	"layover/api"
)

// ends are the earliest and the latest minute of a relief.
type ends [2]int

const (
	earliest = 0
	latest   = 1
)

// planned is a valid day that is planned: its segments, each as a piece alone,
// between which ends each relief is known to be, and the questions of the law.
type planned struct {
	Day
	segments  []piece
	known     [][]ends
	questions []question
}

func newPlanned(d Day) planned {
	p := planned{Day: d, questions: questionsOfLaw()}
	for block, reliefs := range d.Blocks {
		var known []ends
		for number, r := range reliefs {
			known = append(known, ends{r.At.Lo, r.At.Hi})
			if number > 0 {
				alone := piece{setOf(len(p.segments)), spot{block, number - 1}, spot{block, number}}
				p.segments = append(p.segments, alone)
			}
		}
		p.known = append(p.known, known)
	}
	return p
}

// newPlannedDuty is a day that is planned, with the segments of a duty, or an error.
func newPlannedDuty(d Day, duty []int) (planned, set, api.Errno) {
	if e := CheckDay(d); e != api.OK {
		return planned{}, 0, e
	}
	p := newPlanned(d)
	segments, ok := p.segmentsOf(duty)
	if !ok {
		return planned{}, 0, api.ErrRange
	}
	return p, segments, api.OK
}

// in is the day in one truth: each time is known.
func (p planned) in(times [][]int) planned {
	p.known = nil
	for _, block := range times {
		var known []ends
		for _, minute := range block {
			known = append(known, ends{minute, minute})
		}
		p.known = append(p.known, known)
	}
	return p
}

// segmentsOf has the segments of a list, and tells whether the list is a duty.
func (p planned) segmentsOf(duty []int) (set, bool) {
	segments, last := set(0), -1
	rising := every(duty, func(segment int) bool {
		if !within(segment, last+1, len(p.segments)-1) {
			return false
		}
		segments |= setOf(segment)
		last = segment
		return true
	})
	return segments, rising && segments != 0
}

func (p planned) relief(at spot) Relief { return p.Blocks[at.block][at.number] }

func (p planned) minute(at spot, end int) int { return p.known[at.block][at.number][end] }
