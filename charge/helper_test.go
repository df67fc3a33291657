package charge_test

import (
	"iter"
	"math/rand"
	"slices"
	"testing"

	"layover/api"
	"layover/charge"
)

func to(low, high int) charge.Range { return charge.Range{Lo: low, Hi: high} }

// example is the garage of the chapter's examples.
func example() charge.Garage {
	return charge.Garage{
		Slots: []charge.Slot{{Power: 5, Price: 3}, {Power: 5, Price: 1}, {Power: 5, Price: 2}},
		Buses: []charge.Bus{
			{From: 0, To: 2, Rate: 4, Full: 20, Floor: 2, Home: to(6, 9), Use: to(8, 10)},
			{From: 1, To: 3, Rate: 3, Full: 20, Floor: 2, Home: to(5, 5), Use: to(4, 6)},
		},
	}
}

func exampleBy(change func(x *charge.Garage)) charge.Garage {
	x := example()
	change(&x)
	return x
}

// examplePlan is the cheapest plan of the chapter's examples.
func examplePlan() [][]int { return [][]int{{2, 4, 0}, {0, 1, 2}} }

func exampleTruth() charge.Truth { return charge.Truth{Home: []int{8, 5}, Use: []int{9, 4}} }

// bus comes home empty, and uses so much.
func bus(from, to, rate, use int) charge.Bus {
	return charge.Bus{From: from, To: to, Rate: rate, Full: 1000, Use: charge.Range{Lo: use, Hi: use}}
}

// slots have the same Power.
func slots(power int, prices ...int) []charge.Slot {
	var list []charge.Slot
	for _, price := range prices {
		list = append(list, charge.Slot{Power: power, Price: price})
	}
	return list
}

func garage(slots []charge.Slot, buses ...charge.Bus) charge.Garage {
	return charge.Garage{Slots: slots, Buses: buses}
}

func cloneGarage(x charge.Garage) charge.Garage {
	x.Slots, x.Buses = slices.Clone(x.Slots), slices.Clone(x.Buses)
	return x
}

func sameGarage(a, b charge.Garage) bool {
	return slices.Equal(a.Slots, b.Slots) && slices.Equal(a.Buses, b.Buses)
}

func cloneLists(lists [][]int) [][]int {
	lists = slices.Clone(lists)
	for number, list := range lists {
		lists[number] = slices.Clone(list)
	}
	return lists
}

func sameLists(a, b [][]int) bool { return slices.EqualFunc(a, b, slices.Equal[[]int]) }

func cloneTruth(t charge.Truth) charge.Truth {
	return charge.Truth{Home: slices.Clone(t.Home), Use: slices.Clone(t.Use)}
}

func sameTruth(a, b charge.Truth) bool {
	return slices.Equal(a.Home, b.Home) && slices.Equal(a.Use, b.Use)
}

// need is the definition of what a bus needs.
func need(b charge.Bus) int {
	if n := b.Floor + b.Use.Hi - b.Home.Lo; n > 0 {
		return n
	}
	return 0
}

// mayTake is how much a bus takes at most in a slot.
func mayTake(b charge.Bus, slot int) int {
	if slot < b.From || slot >= b.To {
		return 0
	}
	return b.Rate
}

// isPlan is the definition of a plan.
func isPlan(x charge.Garage, plan [][]int) bool {
	if len(plan) != len(x.Buses) {
		return false
	}
	var power [13]int
	for number, b := range x.Buses {
		if len(plan[number]) != len(x.Slots) {
			return false
		}
		all := 0
		for slot, amount := range plan[number] {
			if amount < 0 || amount > mayTake(b, slot) {
				return false
			}
			all += amount
			power[slot] += amount
		}
		if all < need(b) {
			return false
		}
	}
	for slot, s := range x.Slots {
		if power[slot] > s.Power {
			return false
		}
	}
	return true
}

// cost is the definition of what a plan costs.
func cost(x charge.Garage, plan [][]int) int {
	sum := 0
	for _, list := range plan {
		for slot, amount := range list {
			sum += amount * x.Slots[slot].Price
		}
	}
	return sum
}

// night plays a night unit by unit: each bus takes one after another until it has
// its amount, or is full.
func night(x charge.Garage, plan [][]int, t charge.Truth) (out, left []int, paid int) {
	out = append(out, t.Home...)
	for slot, s := range x.Slots {
		for number, b := range x.Buses {
			for range plan[number][slot] {
				if out[number] < b.Full {
					out[number]++
					paid += s.Price
				}
			}
		}
	}
	for number, level := range out {
		left = append(left, level-t.Use[number])
	}
	return out, left, paid
}

// bound is the definition of the bound of worths and surcharges.
func bound(x charge.Garage, worths, surcharges []int) int {
	sum := 0
	for number, b := range x.Buses {
		sum += need(b) * worths[number]
	}
	for slot, s := range x.Slots {
		sum -= s.Power * surcharges[slot]
		for number, b := range x.Buses {
			if more := worths[number] - s.Price - surcharges[slot]; more > 0 {
				sum -= mayTake(b, slot) * more
			}
		}
	}
	return sum
}

// lack is the definition of what some buses lack.
func lack(x charge.Garage, buses []int) int {
	needs, room := 0, 0
	for _, number := range buses {
		needs += need(x.Buses[number])
	}
	for slot, s := range x.Slots {
		rates := 0
		for _, number := range buses {
			rates += mayTake(x.Buses[number], slot)
		}
		room += min(s.Power, rates)
	}
	return max(0, needs-room)
}

// someBuses yields all rising lists of buses; they share their memory.
func someBuses(x charge.Garage) iter.Seq[[]int] {
	return func(yield func([]int) bool) {
		var add func(list []int, next int) bool
		add = func(list []int, next int) bool {
			if next == len(x.Buses) {
				return yield(list)
			}
			return add(list, next+1) && add(append(list, next), next+1)
		}
		add(nil, 0)
	}
}

// mostLack is the definition of how much any buses lack at most.
func mostLack(x charge.Garage) int {
	most := 0
	for buses := range someBuses(x) {
		most = max(most, lack(x, buses))
	}
	return most
}

// plans yields all plans; they share their memory.
func plans(x charge.Garage) iter.Seq[[][]int] {
	return func(yield func([][]int) bool) {
		plan := make([][]int, len(x.Buses))
		for number := range plan {
			plan[number] = make([]int, len(x.Slots))
		}
		var fill func(place int) bool
		fill = func(place int) bool {
			if place == len(x.Buses)*len(x.Slots) {
				return !isPlan(x, plan) || yield(plan)
			}
			number, slot := place/len(x.Slots), place%len(x.Slots)
			for amount := range mayTake(x.Buses[number], slot) + 1 {
				plan[number][slot] = amount
				if !fill(place + 1) {
					return false
				}
			}
			return true
		}
		fill(0)
	}
}

// state is what all buses still need before some slot.
type state struct {
	slot    int
	missing [5]int
}

// cheapest tries all amounts in all slots: what the cheapest plan costs, if there is one.
func cheapest(x charge.Garage) (int, bool) {
	const none = 1 << 40
	known := map[state]int{}
	var from func(s state) int
	var take func(s, after state, number, power int) int
	from = func(s state) int {
		if least, ok := known[s]; ok {
			return least
		}
		least := none
		if s.slot < len(x.Slots) {
			least = take(s, s, 0, x.Slots[s.slot].Power)
		} else if s.missing == [5]int{} {
			least = 0
		}
		known[s] = least
		return least
	}
	take = func(s, after state, number, power int) int {
		if number == len(x.Buses) {
			after.slot++
			return from(after)
		}
		least := none
		for amount := range min(power, mayTake(x.Buses[number], s.slot)) + 1 {
			after.missing[number] = max(0, s.missing[number]-amount)
			least = min(least, amount*x.Slots[s.slot].Price+take(s, after, number+1, power-amount))
		}
		return least
	}
	first := state{}
	for number, b := range x.Buses {
		first.missing[number] = need(b)
	}
	least := from(first)
	return least, least < none
}

// randomRange has ends from low up to high.
func randomRange(r *rand.Rand, low, high int) charge.Range {
	a, b := low+r.Intn(high-low+1), low+r.Intn(high-low+1)
	return to(min(a, b), max(a, b))
}

func randomBus(r *rand.Rand, slots, rate, full int) charge.Bus {
	b := charge.Bus{Rate: r.Intn(rate + 1), Full: r.Intn(full + 1)}
	stay := randomRange(r, 0, min(12, slots+1))
	b.From, b.To = stay.Lo, stay.Hi
	b.Floor = r.Intn(b.Full + 1)
	b.Home, b.Use = randomRange(r, 0, b.Full), randomRange(r, 0, b.Full-b.Floor)
	return b
}

// randomGarage has small numbers, such that there often is a plan, and often not.
func randomGarage(r *rand.Rand, slots, buses int) charge.Garage {
	var x charge.Garage
	for range slots {
		x.Slots = append(x.Slots, charge.Slot{Power: r.Intn(9), Price: r.Intn(7)})
	}
	for range buses {
		b := randomBus(r, slots, 4, 9)
		if r.Intn(4) > 0 {
			b.From, b.To = r.Intn(2), slots
		}
		if b.To = max(b.From, b.To); r.Intn(4) > 0 {
			b.Rate = 2 + r.Intn(3)
		}
		x.Buses = append(x.Buses, b)
	}
	return x
}

// forRandomGarages calls check for many garages, always the same ones.
func forRandomGarages(t *testing.T, check func(t *testing.T, r *rand.Rand, x charge.Garage)) {
	t.Helper()
	r := rand.New(rand.NewSource(5))
	for number := range 2000 {
		check(t, r, randomGarage(r, number%6, number/2%5))
		if t.Failed() {
			return
		}
	}
}

// randomLarge has as many slots and buses as there may be, and great numbers.
func randomLarge(r *rand.Rand) charge.Garage {
	var x charge.Garage
	power, price := 1+r.Intn(1000), []int{2, 9, 1000}[r.Intn(3)]
	for range 12 {
		x.Slots = append(x.Slots, charge.Slot{Power: r.Intn(power + 1), Price: r.Intn(price + 1)})
	}
	for range 5 {
		b := randomBus(r, 12, 1000, 1000)
		if r.Intn(2) == 0 {
			b.From, b.To = 0, 12
		}
		if r.Intn(3) > 0 {
			b.Rate = b.Full/12 + r.Intn(100)
		}
		x.Buses = append(x.Buses, b)
	}
	return x
}

// forLargeGarages calls check for many large garages, always the same ones.
func forLargeGarages(t *testing.T, check func(t *testing.T, r *rand.Rand, x charge.Garage)) {
	t.Helper()
	r := rand.New(rand.NewSource(15))
	for range 1000 {
		check(t, r, randomLarge(r))
		if t.Failed() {
			return
		}
	}
}

// anyPlan is some plan, if there is one: the cheapest one at other prices, with more
// in some slots.
func anyPlan(r *rand.Rand, x charge.Garage) ([][]int, bool) {
	other := cloneGarage(x)
	for slot := range other.Slots {
		other.Slots[slot].Price = r.Intn(1001)
	}
	plan, _, e := charge.Best(other)
	if e != api.OK {
		return nil, false
	}
	for range r.Intn(8) * len(x.Slots) * len(x.Buses) {
		number, slot := r.Intn(len(x.Buses)), r.Intn(len(x.Slots))
		before := plan[number][slot]
		plan[number][slot] += 1 + r.Intn(mayTake(x.Buses[number], slot)+1)
		if !isPlan(x, plan) {
			plan[number][slot] = before
		}
	}
	return plan, true
}

func among(r *rand.Rand, some charge.Range) int { return some.Lo + r.Intn(some.Hi-some.Lo+1) }

// anyTruth has numbers of the ranges, which often are their ends.
func anyTruth(r *rand.Rand, x charge.Garage) charge.Truth {
	var truth charge.Truth
	for _, b := range x.Buses {
		homes, uses := []int{b.Home.Lo, b.Home.Hi, among(r, b.Home)}, []int{b.Use.Lo, b.Use.Hi, among(r, b.Use)}
		truth.Home = append(truth.Home, homes[r.Intn(3)])
		truth.Use = append(truth.Use, uses[r.Intn(3)])
	}
	return truth
}

func mustCost(t *testing.T, x charge.Garage, plan [][]int) int {
	t.Helper()
	sum, e := charge.Cost(x, plan)
	if e != api.OK {
		t.Fatalf("Cost of %v, %v: %v", x, plan, e)
	}
	return sum
}

func mustPlay(t *testing.T, x charge.Garage, plan [][]int, truth charge.Truth) (out, left []int, paid int) {
	t.Helper()
	out, left, paid, e := charge.Play(x, plan, truth)
	if e != api.OK {
		t.Fatalf("Play of %v, %v, %v: %v", x, plan, truth, e)
	}
	return out, left, paid
}

// mustBest has the cheapest plan, which is one, and what it costs, unless there is none.
func mustBest(t *testing.T, x charge.Garage) (plan [][]int, least int, ok bool) {
	t.Helper()
	plan, least, e := charge.Best(x)
	if e == api.OK && (!isPlan(x, plan) || cost(x, plan) != least) || e != api.OK && (e != api.ErrFail || plan != nil || least != 0) {
		t.Fatalf("Best of %v: %v, %d, %v", x, plan, least, e)
	}
	return plan, least, e == api.OK
}

func mustBound(t *testing.T, x charge.Garage, worths, surcharges []int) int {
	t.Helper()
	sum, e := charge.Bound(x, worths, surcharges)
	if e != api.OK {
		t.Fatalf("Bound of %v, %v, %v: %v", x, worths, surcharges, e)
	}
	return sum
}

// mustProof has worths and surcharges, unless there is no plan.
func mustProof(t *testing.T, x charge.Garage) (worths, surcharges []int, ok bool) {
	t.Helper()
	worths, surcharges, e := charge.Proof(x)
	if e != api.OK && (e != api.ErrFail || worths != nil || surcharges != nil) {
		t.Fatalf("Proof of %v: %v, %v, %v", x, worths, surcharges, e)
	}
	return worths, surcharges, e == api.OK
}

// mustLack has a rising list of buses, and what they lack, unless there is a plan.
func mustLack(t *testing.T, x charge.Garage) (buses []int, many int, ok bool) {
	t.Helper()
	buses, many, e := charge.Lack(x)
	if e != api.OK {
		if e != api.ErrNone || buses != nil || many != 0 {
			t.Fatalf("Lack of %v: %v, %d, %v", x, buses, many, e)
		}
		return nil, 0, false
	}
	last := -1
	for _, number := range buses {
		if number <= last || number >= len(x.Buses) {
			t.Fatalf("Lack of %v: %v", x, buses)
		}
		last = number
	}
	if many <= 0 || lack(x, buses) != many {
		t.Fatalf("Lack of %v: %v, %d", x, buses, many)
	}
	return buses, many, true
}
