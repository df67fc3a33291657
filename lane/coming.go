package lane

// coming tells what a bus may do at night: come early, before another one, or come
// late, behind it.
type coming struct {
	early, late func(b, other Bus) bool
}

func newComing() coming { return coming{early: Bus.mayComeBefore, late: Bus.mayComeBehind} }

// mayComeBefore is true of the same minute, too: then any one may be first.
func (b Bus) mayComeBefore(other Bus) bool { return b.Lo <= other.Hi }

func (b Bus) mayComeBehind(other Bus) bool { return other.mayComeBefore(b) }

// isPossible reports whether a list is an order that is possible.
func (y Yard) isPossible(order []int) bool {
	if len(order) != len(y.Buses) || !every(order, y.isBus) || !isDistinct(order) {
		return false
	}
	c := newComing()
	for place, bus := range order {
		mayBeBehind := func(other int) bool { return c.early(y.Buses[bus], y.Buses[other]) }
		if !every(order[place+1:], mayBeBehind) {
			return false
		}
	}
	return true
}
