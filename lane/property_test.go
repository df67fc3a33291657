package lane_test

import (
	"math/rand"
	"slices"
	"testing"

	"layover/lane"
)

// P4.6, P2: no night has more shunts than the worst number of its lanes.
func TestAnyNight(t *testing.T) {
	just := 0
	forRandomNights(t, func(t *testing.T, r *rand.Rand, n night) {
		order, broken, many := mustWorst(t, n.yard, n.lanes)
		found := mustShunts(t, n)
		if len(found) > many {
			t.Errorf("Shunts of %v: %v, but Worst: %d", n, found, many)
		}
		if len(found) == many {
			just++
		}
		if found := mustShunts(t, night{n.yard, n.lanes, order, broken}); len(found) != many {
			t.Errorf("Worst of %v: %v, %v, %d, but they shunt %v", n, order, broken, many, found)
		}
	})
	if just < 300 {
		t.Errorf("only %d nights were the worst", just)
	}
}

// P4.7: each bus goes out at its turn, and those that are shunted are in its way.
func TestAllGoOut(t *testing.T) {
	forRandomNights(t, func(t *testing.T, r *rand.Rand, n night) {
		told := mustMorning(t, n)
		goOut := goingOut(n)
		if len(told) != len(goOut) {
			t.Fatalf("Morning of %v: %v", n, told)
		}
		var all []int
		for place, shunted := range told {
			for _, number := range shunted {
				if slices.Contains(all, number) || slices.Contains(goOut[:place+1], number) || !standsBefore(n.lanes, n.order, number, goOut[place]) {
					t.Errorf("Morning of %v: %v: %d is shunted for %d", n, told, number, goOut[place])
				}
				all = append(all, number)
			}
			for number := range n.yard.Buses {
				inTheWay := standsBefore(n.lanes, n.order, number, goOut[place])
				if inTheWay && !slices.Contains(all, number) && !slices.Contains(goOut[:place], number) {
					t.Errorf("Morning of %v: %v: %d is in the way of %d", n, told, number, goOut[place])
				}
			}
		}
		slices.Sort(all)
		if found := mustShunts(t, n); !slices.Equal(found, all) {
			t.Errorf("Morning of %v: %v, Shunts: %v", n, told, found)
		}
	})
}

// goingOut has the buses that are not broken, by rising Turn.
func goingOut(n night) []int {
	var out []int
	for number := range n.yard.Buses {
		if !slices.Contains(n.broken, number) {
			out = append(out, number)
		}
	}
	slices.SortFunc(out, func(a, b int) int { return n.yard.Buses[a].Turn - n.yard.Buses[b].Turn })
	return out
}

// P4.8: the best lanes are lanes, and no others have a lesser worst number.
func TestNoBetterLanes(t *testing.T) {
	forRandomNights(t, func(t *testing.T, r *rand.Rand, n night) {
		lanes, many, ok := mustBest(t, n.yard)
		if !ok || !areLanes(n.yard, lanes) || len(lanes) != len(n.yard.Buses) {
			t.Fatalf("Best of %v: %v, %d, %v", n.yard, lanes, many, ok)
		}
		if _, _, own := mustWorst(t, n.yard, lanes); own != many {
			t.Errorf("Best of %v: %v, %d, but Worst: %d", n.yard, lanes, many, own)
		}
		_, _, other := mustWorst(t, n.yard, n.lanes)
		if other < many || other == many && slices.Compare(n.lanes, lanes) < 0 {
			t.Errorf("Best of %v: %v, %d, but %v has %d", n.yard, lanes, many, n.lanes, other)
		}
	})
}

// P4.9: narrower ranges, fewer that can break down, more Room.
func TestBetterKnown(t *testing.T) {
	less := 0
	forRandomNights(t, func(t *testing.T, r *rand.Rand, n night) {
		known := cloneYard(n.yard)
		switch {
		case len(known.Buses) == 0, r.Intn(3) == 0:
			known.Broken = r.Intn(known.Broken + 1)
		default:
			b := &known.Buses[r.Intn(len(known.Buses))]
			b.Lo += r.Intn(b.Hi - b.Lo + 1)
			b.Hi = b.Lo + r.Intn(b.Hi-b.Lo+1)
		}
		_, _, before := mustWorst(t, n.yard, n.lanes)
		_, _, now := mustWorst(t, known, n.lanes)
		_, best, _ := mustBest(t, n.yard)
		_, bestNow, _ := mustBest(t, known)
		if now > before || bestNow > best {
			t.Errorf("%v: Worst %d, Best %d; %v: %d, %d", n.yard, before, best, known, now, bestNow)
		}
		if now < before {
			less++
		}
		wide := cloneYard(n.yard)
		wide.Room[r.Intn(len(wide.Room))] = 8
		_, _, with := mustWorst(t, wide, n.lanes)
		if _, bestWith, ok := mustBest(t, wide); with != before || bestWith > best || !ok {
			t.Errorf("%v: Worst %d, Best %d; %v: %d, %d", n.yard, before, best, wide, with, bestWith)
		}
	})
	if less < 30 {
		t.Errorf("only %d numbers were less", less)
	}
}

// P4.10: without the last bus of the list the shunts of the others are not more.
func TestOneLess(t *testing.T) {
	fewer := 0
	forRandomNights(t, func(t *testing.T, r *rand.Rand, n night) {
		last := len(n.yard.Buses) - 1
		if last < 0 {
			return
		}
		isLast := func(number int) bool { return number == last }
		less := night{cloneYard(n.yard), n.lanes[:last], slices.DeleteFunc(slices.Clone(n.order), isLast), slices.DeleteFunc(slices.Clone(n.broken), isLast)}
		less.yard.Buses = less.yard.Buses[:last]
		before := slices.DeleteFunc(mustShunts(t, n), isLast)
		now := mustShunts(t, less)
		for _, number := range now {
			if !slices.Contains(before, number) {
				t.Errorf("%d is shunted in %v, not in %v", number, less, n)
			}
		}
		if len(now) < len(before) {
			fewer++
		}
		_, _, worst := mustWorst(t, n.yard, n.lanes)
		if _, _, worstLess := mustWorst(t, less.yard, less.lanes); worstLess > worst {
			t.Errorf("Worst of %v: %d; of %v: %d", n, worst, less, worstLess)
		}
	})
	if fewer < 100 {
		t.Errorf("only %d nights had fewer", fewer)
	}
}

// P4.11: the shunts are those of each lane alone.
func TestByLanes(t *testing.T) {
	forRandomNights(t, func(t *testing.T, r *rand.Rand, n night) {
		var all []int
		for number := range n.yard.Room {
			alone, buses := inLane(n, number)
			for _, place := range mustShunts(t, alone) {
				all = append(all, buses[place])
			}
		}
		slices.Sort(all)
		if found := mustShunts(t, n); !slices.Equal(found, all) {
			t.Errorf("Shunts of %v: %v, of its lanes %v", n, found, all)
		}
	})
}

// inLane has the buses of one lane alone, and their numbers in the yard.
func inLane(n night, number int) (alone night, buses []int) {
	alone.yard = lane.Yard{Room: n.yard.Room, Broken: n.yard.Broken}
	for place, other := range n.lanes {
		if other == number {
			buses = append(buses, place)
			alone.yard.Buses = append(alone.yard.Buses, n.yard.Buses[place])
		}
	}
	alone.lanes = repeated(number, len(buses))
	for _, place := range n.order {
		if n.lanes[place] == number {
			alone.order = append(alone.order, slices.Index(buses, place))
		}
	}
	for _, place := range n.broken {
		if n.lanes[place] == number {
			alone.broken = append(alone.broken, slices.Index(buses, place))
		}
	}
	return alone, buses
}

// P4.12: other Turns in the same order, and Lo and Hi as much greater.
func TestNumbers(t *testing.T) {
	forRandomNights(t, func(t *testing.T, r *rand.Rand, n night) {
		other := n
		other.yard = cloneYard(n.yard)
		later, first, step := r.Intn(1980), r.Intn(100), 1+r.Intn(150)
		for place := range other.yard.Buses {
			b := &other.yard.Buses[place]
			*b = bus(b.Lo+later, b.Hi+later, first+step*b.Turn)
		}
		c, d := calls{n.yard, n.lanes, n.order, n.broken}, calls{other.yard, other.lanes, other.order, other.broken}
		if !c.make().same(d.make()) {
			t.Errorf("%v: %v; %v: %v", c, c.make(), d, d.make())
		}
	})
}

// P4.12: a lane for each bus, or buses that surely come in the order of their Turns.
func TestNothingShunted(t *testing.T) {
	r := rand.New(rand.NewSource(412))
	for range 300 {
		alone := randomYard(r, 3, r.Intn(4))
		alone.Room = []int{1, 1, 1}
		lanes := r.Perm(3)[:len(alone.Buses)]
		checkWorst(t, alone, lanes, 0)
		if lanes, many, ok := mustBest(t, alone); many != 0 || !ok {
			t.Errorf("Best of %v: %v, %d", alone, lanes, many)
		}
		x := yard(1+r.Intn(3), 0, inOrder(upTo(r.Intn(9)-1)...)...)
		lanes, _ = anyLanes(r, x)
		checkWorst(t, x, lanes, 0)
		if lanes, many, ok := mustBest(t, x); many != 0 || !ok || slices.Contains(lanes, 1) {
			t.Errorf("Best of %v: %v, %d", x, lanes, many)
		}
	}
}
