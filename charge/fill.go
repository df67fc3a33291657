package charge

import (
	"layover/api"
)

// nobody is the number of no bus.
const nobody = -1

// charging is a garage at work, and what its buses have taken.
type charging struct {
	Garage
	amounts
}

// prices tell the least that it costs if a bus takes a unit more, and if a slot has
// a unit of power less: in which slot the bus takes it, and which bus gives one up in
// the slot, to take another one elsewhere. A price that is not known is as great as
// a worth may be. That is more than any way costs: what one bus gives up another one
// takes, so it costs no more than the last slot's Price.
type prices struct {
	ofBuses [api.MaxChargeBuses]int
	ofSlots [api.MaxChargeSlots]int
	takes   [api.MaxChargeBuses]int
	gives   [api.MaxChargeSlots]int
}

// way has the steps with which more, and those with which less is taken, so that one
// bus has more in the end, and all others have as much as before.
type way struct{ more, less []step }

// charged gives each bus what it needs, always by a way that costs least: then no
// plan costs less. There has to be a plan.
func charged(g Garage) charging {
	c := charging{g, amounts{}}
	for number, need := range g.needs() {
		for missing := need; missing > 0; missing = need - c.ofBus(number) {
			c.take(c.cheapest().way(number), missing)
		}
	}
	return c
}

func (c charging) spare(slot int) int { return c.Slots[slot].Power - c.inSlot(slot) }

// firstPrices are known of slots with spare power, and of nothing else.
func (c charging) firstPrices() prices {
	var p prices
	for number := range p.ofBuses {
		p.ofBuses[number] = api.MaxChargeWorth
	}
	for slot := range c.Slots {
		p.gives[slot] = nobody
		if c.spare(slot) == 0 {
			p.ofSlots[slot] = api.MaxChargeWorth
		}
	}
	return p
}

// cheapest looks for the prices until there is no cheaper way for any bus.
func (c charging) cheapest() prices {
	p := c.firstPrices()
	getsCheaper := func(number int) bool {
		before := p
		for slot := range c.slotsOf(c.Buses[number]) {
			p.lower(c, step{number, slot})
		}
		return p != before
	}
search:
	for {
		for number := range c.Buses {
			if getsCheaper(number) {
				continue search
			}
		}
		break search
	}
	return p
}

// lower lowers the prices of a bus and a slot, if the bus takes or gives up a unit in
// the slot for less.
func (p *prices) lower(c charging, s step) {
	price, taken := c.Slots[s.slot].Price, c.amounts[s]
	if more := p.ofSlots[s.slot] + price; taken < c.Buses[s.bus].Rate && more < p.ofBuses[s.bus] {
		p.ofBuses[s.bus], p.takes[s.bus] = more, s.slot
	}
	if less := p.ofBuses[s.bus] - price; taken > 0 && less < p.ofSlots[s.slot] {
		p.ofSlots[s.slot], p.gives[s.slot] = less, s.bus
	}
}

// way is the cheapest one by which a bus takes more.
func (p prices) way(bus int) way {
	var w way
	for {
		slot := p.takes[bus]
		w.more = append(w.more, step{bus, slot})
		if bus = p.gives[slot]; bus == nobody {
			return w
		}
		w.less = append(w.less, step{bus, slot})
	}
}

// take goes a way with as much as there can be, but not more than most.
func (c charging) take(w way, most int) {
	last := w.more[len(w.more)-1]
	amount := lesser(most, c.spare(last.slot))
	for _, s := range w.more {
		amount = lesser(amount, c.Buses[s.bus].Rate-c.amounts[s])
	}
	for _, s := range w.less {
		amount = lesser(amount, c.amounts[s])
	}
	for _, s := range w.more {
		c.amounts[s] += amount
	}
	for _, s := range w.less {
		c.amounts[s] -= amount
	}
}

func (c charging) plan() [][]int {
	var plan [][]int
	for bus := range c.Buses {
		list := make([]int, len(c.Slots))
		for slot := range list {
			list[slot] = c.amounts[step{bus, slot}]
		}
		plan = append(plan, list)
	}
	return plan
}

func (c charging) cost() int {
	cost := 0
	for s, amount := range c.amounts {
		cost += amount * c.Slots[s.slot].Price
	}
	return cost
}

// proof has the prices of the last units: they are the worths and the surcharges by
// which nothing is cheaper.
func (c charging) proof() (worths, surcharges []int) {
	p := c.cheapest()
	return append(worths, p.ofBuses[:len(c.Buses)]...), append(surcharges, p.ofSlots[:len(c.Slots)]...)
}
