package charge

import (
	"layover/api"
)

func (g Garage) bound(worths, surcharges []int) int {
	sum := 0
	for slot, s := range g.Slots {
		sum -= s.Power * surcharges[slot]
	}
	for number, b := range g.Buses {
		sum += b.need() * worths[number]
		for slot := range g.slotsOf(b) {
			sum -= b.Rate * greater(0, worths[number]-g.Slots[slot].Price-surcharges[slot])
		}
	}
	return sum
}

// mostLack returns buses that lack most, and their lack.
func (g Garage) mostLack() (buses []int, lack int) {
	for set := range 1 << len(g.Buses) {
		some := g.busesOf(set)
		if own := g.lack(some); own > lack {
			buses, lack = some, own
		}
	}
	return buses, lack
}

// busesOf has the buses of a set, which has a bit for each of them.
func (g Garage) busesOf(set int) []int {
	var buses []int
	for number := range g.Buses {
		if set>>number&1 == 1 {
			buses = append(buses, number)
		}
	}
	return buses
}

func (g Garage) lack(buses []int) int {
	needs := 0
	for _, number := range buses {
		needs += g.Buses[number].need()
	}
	return greater(0, needs-g.room(buses))
}

func (g Garage) room(buses []int) int {
	var rates [api.MaxChargeSlots]int
	for _, number := range buses {
		for slot := range g.slotsOf(g.Buses[number]) {
			rates[slot] += g.Buses[number].Rate
		}
	}
	room := 0
	for slot, s := range g.Slots {
		room += lesser(rates[slot], s.Power)
	}
	return room
}
