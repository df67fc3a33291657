package charge

import (
	"iter"

	"layover/api"
)

// step is that a bus takes something in a slot.
type step struct{ bus, slot int }

// amounts tell how much is taken with each step.
type amounts map[step]int

// rule says that no sum of amounts may be beyond a limit.
type rule struct {
	sum    func(amounts, int) int
	limits []int
	allows func(sum, limit int) bool
}

func lesser(first int, others ...int) int {
	for _, other := range others {
		first = min(first, other)
	}
	return first
}

func greater(first int, others ...int) int {
	for _, other := range others {
		first = max(first, other)
	}
	return first
}

func isAtLeast(sum, limit int) bool { return sum >= limit }

func isAtMost(sum, limit int) bool { return sum <= limit }

// those yields the numbers below a number that pass a test.
func those(below int, passes func(int) bool) iter.Seq[int] {
	return func(yield func(int) bool) {
		for number := range below {
			if passes(number) && !yield(number) {
				return
			}
		}
	}
}

func (b Bus) isThere(slot int) bool { return b.From <= slot && slot < b.To }

func (b Bus) need() int { return greater(0, b.Floor+b.Use.Hi-b.Home.Lo) }

// most is what a bus takes at most in a slot.
func (b Bus) most(slot int) int {
	if !b.isThere(slot) {
		return 0
	}
	return b.Rate
}

// slotsOf yields the slots in which a bus is there.
func (g Garage) slotsOf(b Bus) iter.Seq[int] { return those(len(g.Slots), b.isThere) }

func (g Garage) needs() []int {
	var needs []int
	for _, b := range g.Buses {
		needs = append(needs, b.need())
	}
	return needs
}

func (g Garage) powers() []int {
	var powers []int
	for _, s := range g.Slots {
		powers = append(powers, s.Power)
	}
	return powers
}

func amountsOf(plan [][]int) amounts {
	a := amounts{}
	for bus, list := range plan {
		for slot, amount := range list {
			a[step{bus, slot}] = amount
		}
	}
	return a
}

func (a amounts) ofBus(number int) int {
	sum := 0
	for s, amount := range a {
		if s.bus == number {
			sum += amount
		}
	}
	return sum
}

func (a amounts) inSlot(number int) int {
	sum := 0
	for s, amount := range a {
		if s.slot == number {
			sum += amount
		}
	}
	return sum
}

func (a amounts) keep(r rule) bool {
	for number, limit := range r.limits {
		if !r.allows(r.sum(a, number), limit) {
			return false
		}
	}
	return true
}

func (g Garage) rules() []rule {
	return []rule{{amounts.ofBus, g.needs(), isAtLeast}, {amounts.inSlot, g.powers(), isAtMost}}
}

func (g Garage) isPlan(plan [][]int) bool {
	if len(plan) != len(g.Buses) {
		return false
	}
	for number, list := range plan {
		if len(list) != len(g.Slots) || !g.Buses[number].mayTake(list) {
			return false
		}
	}
	return every(g.rules(), amountsOf(plan).keep)
}

func (b Bus) mayTake(list []int) bool {
	for slot, amount := range list {
		if !within(amount, 0, b.most(slot)) {
			return false
		}
	}
	return true
}

// night returns the levels with which the buses go out, and what is paid.
func (g Garage) night(plan amounts, t Truth) (out []int, paid int) {
	var levels [api.MaxChargeBuses]int
	copy(levels[:], t.Home)
	for slot := range len(g.Slots) {
		for number, b := range g.Buses {
			amount := lesser(plan[step{number, slot}], b.Full-levels[number])
			levels[number] += amount
			paid += amount * g.Slots[slot].Price
		}
	}
	return append(out, levels[:len(g.Buses)]...), paid
}

func dayAfter(out []int, t Truth) []int {
	var left []int
	for number, level := range out {
		left = append(left, level-t.Use[number])
	}
	return left
}
