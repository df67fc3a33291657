package lane

import (
	"layover/api"
)

// mostBroken is how many buses may break down at most.
const mostBroken = 2

// every reports whether all elements of a list pass a test.
func every[E any](list []E, passes func(E) bool) bool {
	for _, element := range list {
		if !passes(element) {
			return false
		}
	}
	return true
}

// isDistinct reports whether no element is in a list twice.
func isDistinct[E comparable](list []E) bool {
	seen := map[E]bool{}
	return every(list, func(element E) bool {
		again := seen[element]
		seen[element] = true
		return !again
	})
}

// isRising reports whether a list has no element that is at most the one before it.
func isRising(list []int) bool {
	for place := 1; place < len(list); place++ {
		if list[place] <= list[place-1] {
			return false
		}
	}
	return true
}

func within(number, from, to int) bool { return from <= number && number <= to }

func isRoom(number int) bool { return within(number, 0, api.MaxLaneBuses) }

func (b Bus) isValid() bool {
	return within(b.Lo, 0, b.Hi) && b.Hi <= api.MaxLaneDay && within(b.Turn, 0, api.MaxLaneDay)
}

func (y Yard) turns() []int {
	var turns []int
	for _, b := range y.Buses {
		turns = append(turns, b.Turn)
	}
	return turns
}

// hasRoom reports whether there are lanes for the buses.
func (y Yard) hasRoom() bool {
	room := 0
	for _, number := range y.Room {
		room += number
	}
	return room >= len(y.Buses)
}

// checkLanes returns the error of a yard with lanes, or OK.
func checkLanes(y Yard, lanes []int) api.Errno {
	if e := CheckYard(y); e != api.OK {
		return e
	}
	if !y.areLanes(lanes) {
		return api.ErrRange
	}
	return api.OK
}

// checkNight returns the error of a yard with lanes, an order and those that break
// down, or OK.
func checkNight(y Yard, lanes, order, broken []int) api.Errno {
	if e := checkLanes(y, lanes); e != api.OK {
		return e
	}
	if !y.isPossible(order) || !y.mayBreakDown(broken) {
		return api.ErrRange
	}
	return api.OK
}

func (y Yard) isBus(number int) bool { return within(number, 0, len(y.Buses)-1) }

func (y Yard) isLane(number int) bool { return within(number, 0, len(y.Room)-1) }

func (y Yard) areLanes(lanes []int) bool {
	if len(lanes) != len(y.Buses) || !every(lanes, y.isLane) {
		return false
	}
	var buses [api.MaxLaneLanes]int
	for _, lane := range lanes {
		buses[lane]++
	}
	for lane, room := range y.Room {
		if buses[lane] > room {
			return false
		}
	}
	return true
}

func (y Yard) mayBreakDown(broken []int) bool {
	return len(broken) <= y.Broken && every(broken, y.isBus) && isRising(broken)
}
