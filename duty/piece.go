package duty

import (
	"iter"
	"math/bits"
	"slices"
)

// set has a bit for each segment.
type set uint

func setOf(segment int) set { return 1 << segment }

func (s set) has(segment int) bool { return s&setOf(segment) != 0 }

// lowest has only the first segment of a set.
func (s set) lowest() set { return s & -s }

func (s set) list() []int {
	segments := []int{}
	for left := s; left != 0; left &^= left.lowest() {
		segments = append(segments, bits.TrailingZeros(uint(left)))
	}
	return segments
}

// spot tells which relief of the day is meant: two that are equal may be of two
// blocks, or one behind the other.
type spot struct{ block, number int }

// piece is work of one bus without a break.
type piece struct {
	segments   set
	begin, end spot
}

// firstPiece is the piece with the first segment of some.
func (p planned) firstPiece(segments set) piece {
	var found piece
search:
	for number, next := range p.segments {
		switch {
		case !segments.has(number):
			continue search
		case found == piece{}:
			found = next
		case found.end != next.begin:
			break search
		default:
			found.segments |= next.segments
			found.end = next.end
		}
	}
	return found
}

// pieces yields the pieces of a duty in their order, which is by the ranges of
// the reliefs, whatever is known of their times.
func (p planned) pieces(duty set) iter.Seq[piece] {
	return func(yield func(piece) bool) {
		var order []piece
		for left := duty; left != 0; {
			next := p.firstPiece(left)
			order = append(order, next)
			left &^= next.segments
		}
		// Pieces of the same Lo stay in the order of their first segments.
		slices.SortStableFunc(order, func(a, b piece) int {
			return p.relief(a.begin).At.Lo - p.relief(b.begin).At.Lo
		})
		for _, next := range order {
			if !yield(next) {
				return
			}
		}
	}
}
