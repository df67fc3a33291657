package charge

import (
	"layover/api"
)

// every reports whether all elements of a list pass a test.
func every[E any](list []E, passes func(E) bool) bool {
	for _, element := range list {
		if !passes(element) {
			return false
		}
	}
	return true
}

func within(number, from, to int) bool { return from <= number && number <= to }

func isAmount(number int) bool { return within(number, 0, api.MaxChargeUnits) }

func isSlot(number int) bool { return within(number, 0, api.MaxChargeSlots) }

func isWorth(number int) bool {
	return within(number, -api.MaxChargeWorth, api.MaxChargeWorth)
}

func isSurcharge(number int) bool { return within(number, 0, api.MaxChargeWorth) }

func (s Slot) isValid() bool { return isAmount(s.Power) && isAmount(s.Price) }

func (b Bus) isValid() bool {
	return isSlot(b.From) && isSlot(b.To) && b.From <= b.To &&
		isAmount(b.Rate) && isAmount(b.Full) && within(b.Floor, 0, b.Full) &&
		b.Home.isIn(0, b.Full) && b.Use.isIn(0, b.Full-b.Floor)
}

// isIn reports whether a range is valid, and has no number below from or above to.
func (r Range) isIn(from, to int) bool { return within(r.Lo, from, r.Hi) && r.Hi <= to }

func (r Range) has(number int) bool { return within(number, r.Lo, r.Hi) }

// checkPlan returns the error of a garage with a plan, or OK.
func checkPlan(g Garage, plan [][]int) api.Errno {
	if e := CheckGarage(g); e != api.OK {
		return e
	}
	if !g.isPlan(plan) {
		return api.ErrRange
	}
	return api.OK
}

// checkPossible returns the error of a garage for which there has to be a plan, or OK.
func checkPossible(g Garage) api.Errno {
	if e := CheckGarage(g); e != api.OK {
		return e
	}
	if _, lack := g.mostLack(); lack > 0 {
		return api.ErrFail
	}
	return api.OK
}

func (g Garage) isTruth(t Truth) bool {
	if len(t.Home) != len(g.Buses) || len(t.Use) != len(g.Buses) {
		return false
	}
	for number, b := range g.Buses {
		if !b.Home.has(t.Home[number]) || !b.Use.has(t.Use[number]) {
			return false
		}
	}
	return true
}

func (g Garage) areWorths(list []int) bool {
	return len(list) == len(g.Buses) && every(list, isWorth)
}

func (g Garage) areSurcharges(list []int) bool {
	return len(list) == len(g.Slots) && every(list, isSurcharge)
}
