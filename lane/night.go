package lane

import (
	"cmp"
	"iter"
	"slices"

	"layover/api"
)

// stand is where a bus stands: the one with the least place in a lane came first.
type stand struct{ lane, place int }

// isBefore reports whether the bus is nearer to the way out of the same lane.
func (s stand) isBefore(other stand) bool { return s.lane == other.lane && s.place < other.place }

// places has of each bus how many came before it.
type places [api.MaxLaneBuses]int

// placesIn has the places in an order.
func placesIn(order []int) places {
	var p places
	for place, bus := range order {
		p[bus] = place
	}
	return p
}

// chosen tells of each bus whether it is one of some.
type chosen [api.MaxLaneBuses]bool

func choose(buses []int) chosen {
	var c chosen
	for _, bus := range buses {
		c[bus] = true
	}
	return c
}

// night is a valid yard in which all buses stand in lanes, and some have broken
// down.
type night struct {
	Yard
	stands [api.MaxLaneBuses]stand
	down   chosen
}

func newNight(y Yard, lanes []int, p places, down chosen) night {
	n := night{Yard: y, down: down}
	for bus, lane := range lanes {
		n.stands[bus] = stand{lane, p[bus]}
	}
	return n
}

// goingOut yields the buses that go out, by rising Turn.
func (n night) goingOut() iter.Seq[int] {
	return func(yield func(int) bool) {
		for _, bus := range n.sorted(func(bus int) int { return n.Buses[bus].Turn }) {
			if !n.isDown(bus) && !yield(bus) {
				return
			}
		}
	}
}

// sorted has all buses by what is asked of them, the first questions first.
func (n night) sorted(questions ...func(bus int) int) []int {
	buses := []int{}
	for bus := range n.Buses {
		buses = append(buses, bus)
	}
	slices.SortStableFunc(buses, func(a, b int) int {
		for _, answer := range questions {
			if order := cmp.Compare(answer(a), answer(b)); order != 0 {
				return order
			}
		}
		return 0
	})
	return buses
}

// those has the buses that pass a test, rising.
func (n night) those(passes func(bus int) bool) []int {
	found := []int{}
	for bus := range n.Buses {
		if passes(bus) {
			found = append(found, bus)
		}
	}
	return found
}

func (n night) shunts() []int { return n.those(n.isShunted) }

func (n night) broken() []int { return n.those(n.isDown) }

func (n night) isDown(bus int) bool { return n.down[bus] }

// isShunted reports whether a bus stands before one that goes out earlier. One that
// breaks down is never met among those that go out, so it is asked of all of them.
func (n night) isShunted(bus int) bool {
	hinders := n.stands[bus].isBefore
	found := false
search:
	for other := range n.goingOut() {
		switch {
		case other == bus:
			break search
		case hinders(n.stands[other]):
			found = true
			break search
		}
	}
	return found
}

// morning has for each bus that goes out those that are shunted for it.
func (n night) morning(order []int) [][]int {
	told := [][]int{}
	var gone chosen
	for out := range n.goingOut() {
		shunted := []int{}
		for _, bus := range order {
			if !gone[bus] && n.stands[bus].isBefore(n.stands[out]) {
				shunted = append(shunted, bus)
				gone[bus] = true
			}
		}
		gone[out] = true
		told = append(told, shunted)
	}
	return told
}

// order is a possible one in which the buses of each lane come as they stand, if
// those of each lane alone can come so.
func (n night) order() []int {
	place := func(bus int) int { return n.stands[bus].place }
	return n.sorted(n.minute, place)
}

// minute is the earliest one at which a bus can come: behind those that stand
// before it.
func (n night) minute(bus int) int {
	minutes := []int{n.Buses[bus].Lo}
	for other, b := range n.Buses {
		if n.stands[other].isBefore(n.stands[bus]) {
			minutes = append(minutes, b.Lo)
		}
	}
	return latest(minutes...)
}

// latest is the latest one of some minutes; before all of them is the minute 0.
func latest(minutes ...int) int {
	last := 0
	for _, minute := range minutes {
		last = max(last, minute)
	}
	return last
}
