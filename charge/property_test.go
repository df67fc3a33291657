package charge_test

import (
	"math/rand"
	"slices"
	"testing"

	"layover/charge"
)

// truths yields all truths whose numbers are ends of ranges.
func truths(x charge.Garage, yield func(charge.Truth)) {
	var add func(truth charge.Truth, next int)
	add = func(truth charge.Truth, next int) {
		if next == len(x.Buses) {
			yield(truth)
			return
		}
		b := x.Buses[next]
		for _, home := range []int{b.Home.Lo, b.Home.Hi} {
			for _, use := range []int{b.Use.Lo, b.Use.Hi} {
				add(charge.Truth{Home: append(truth.Home, home), Use: append(truth.Use, use)}, next+1)
			}
		}
	}
	add(charge.Truth{}, 0)
}

// P5.6, P2, P3: by any plan, in each truth, no battery falls below its floor.
func TestFloor(t *testing.T) {
	nights := 0
	check := func(t *testing.T, r *rand.Rand, x charge.Garage) {
		plan, ok := anyPlan(r, x)
		if !ok {
			return
		}
		most := mustCost(t, x, plan)
		checkNight := func(truth charge.Truth) {
			nights++
			out, left, paid := mustPlay(t, x, plan, truth)
			for number, b := range x.Buses {
				if out[number] < b.Floor+truth.Use[number] || out[number] > b.Full || left[number] < b.Floor || out[number]-left[number] != truth.Use[number] {
					t.Fatalf("Play of %v, %v, %v: %v, %v", x, plan, truth, out, left)
				}
			}
			if paid < 0 || paid > most {
				t.Fatalf("Play of %v, %v, %v: %d is paid", x, plan, truth, paid)
			}
		}
		for range 20 {
			checkNight(anyTruth(r, x))
		}
		if len(x.Buses) < 4 {
			truths(x, checkNight)
		}
	}
	forRandomGarages(t, check)
	forLargeGarages(t, check)
	if nights < 20000 {
		t.Errorf("%d nights", nights)
	}
}

// P5.6: the cheapest plan leaves just the floor in the worst truth, if nothing is
// taken for nothing.
func TestWorstTruth(t *testing.T) {
	forRandomGarages(t, func(t *testing.T, r *rand.Rand, x charge.Garage) {
		for slot := range x.Slots {
			x.Slots[slot].Price++
		}
		plan, least, ok := mustBest(t, x)
		if !ok {
			return
		}
		truth := charge.Truth{}
		for _, b := range x.Buses {
			truth.Home, truth.Use = append(truth.Home, b.Home.Lo), append(truth.Use, b.Use.Hi)
		}
		_, left, paid := mustPlay(t, x, plan, truth)
		for number, b := range x.Buses {
			if need(b) > 0 && left[number] != b.Floor {
				t.Errorf("Play of %v, %v: %v", x, plan, left)
			}
		}
		if paid != least {
			t.Errorf("Play of %v, %v: %d is paid, not %d", x, plan, paid, least)
		}
	})
}

// P5.7, P4: no plan costs less than the bound of Proof, and no bound is more than
// what the cheapest plan costs.
func TestNoCheaper(t *testing.T) {
	bounds, costs := 0, 0
	check := func(t *testing.T, r *rand.Rand, x charge.Garage) {
		_, least, ok := mustBest(t, x)
		if !ok {
			return
		}
		checkProof(t, x, least)
		proven, charges, _ := mustProof(t, x)
		for range 50 {
			worths, surcharges := anyWorths(r, x)
			if n := mustBound(t, x, worths, surcharges); n > least {
				t.Fatalf("Bound of %v, %v, %v: %d above %d", x, worths, surcharges, n, least)
			} else if n == least && least > 0 {
				bounds++
			}
			for number := range worths {
				worths[number] = max(-100000, min(100000, proven[number]+r.Intn(5)-2))
			}
			if n := mustBound(t, x, worths, charges); n > least {
				t.Fatalf("Bound of %v, %v, %v: %d above %d", x, worths, charges, n, least)
			}
		}
		for range 10 {
			plan, _ := anyPlan(r, x)
			if n := mustCost(t, x, plan); n < least {
				t.Fatalf("Cost of %v, %v: %d below %d", x, plan, n, least)
			} else if n > least {
				costs++
			}
		}
	}
	forRandomGarages(t, check)
	if bounds < 100 || costs < 1000 {
		t.Errorf("%d bounds were as great, %d costs greater", bounds, costs)
	}
}

// P5.7: no plan costs less, with all plans tried.
func TestNoCheaperPlan(t *testing.T) {
	r := rand.New(rand.NewSource(57))
	some, many := 0, 0
	for range 1000 {
		x := randomGarage(r, r.Intn(4), r.Intn(3))
		_, least, ok := mustBest(t, x)
		found := false
		for plan := range plans(x) {
			found = true
			many++
			if !ok || mustCost(t, x, plan) < least {
				t.Fatalf("%v, %v: no plan, or %d", x, plan, least)
			}
		}
		if found != ok {
			t.Fatalf("Best of %v: %v", x, ok)
		}
		if ok && least > 0 {
			some++
		}
	}
	if some < 50 || many < 1000 {
		t.Errorf("%d garages, %d plans", some, many)
	}
}

// P5.8, P5: either there is a plan, or some buses lack something, and no buses lack more.
func TestWhyNot(t *testing.T) {
	some, none := 0, 0
	check := func(t *testing.T, r *rand.Rand, x charge.Garage) {
		_, _, possible := mustBest(t, x)
		_, _, proved := mustProof(t, x)
		_, many, lacking := mustLack(t, x)
		if possible == lacking || possible != proved {
			t.Fatalf("%v: a plan %v, a proof %v, a lack %v", x, possible, proved, lacking)
		}
		for buses := range someBuses(x) {
			if n := lack(x, buses); n > many {
				t.Fatalf("Lack of %v: %v lack %d, more than %d", x, buses, n, many)
			}
		}
		if possible {
			some++
		} else {
			none++
		}
	}
	forRandomGarages(t, check)
	forLargeGarages(t, check)
	if some < 500 || none < 500 {
		t.Errorf("%d plans, %d none", some, none)
	}
}

// withMoreNeed has the garage with a need of a bus that is greater by 1.
func withMoreNeed(r *rand.Rand, x charge.Garage, number int) (charge.Garage, bool) {
	y := cloneGarage(x)
	switch b := &y.Buses[number]; r.Intn(3) {
	case 0:
		b.Floor++
	case 1:
		b.Home.Lo--
	case 2:
		b.Use.Hi++
	}
	return y, charge.CheckGarage(y) == 0 && need(y.Buses[number]) == need(x.Buses[number])+1
}

// P5.8: a need of one bus that is greater by 1.
func TestMoreNeed(t *testing.T) {
	same, greater := 0, 0
	check := func(t *testing.T, r *rand.Rand, x charge.Garage) {
		_, before, _ := mustLack(t, x)
		for number := range x.Buses {
			y, ok := withMoreNeed(r, x, number)
			if !ok {
				continue
			}
			_, many, _ := mustLack(t, y)
			if many < before || many > before+1 {
				t.Fatalf("Lack of %v: %d, with more need of %d: %d", x, before, number, many)
			}
			if many == before {
				same++
			} else {
				greater++
			}
		}
	}
	forRandomGarages(t, check)
	forLargeGarages(t, check)
	if same < 200 || greater < 200 {
		t.Errorf("%d lacks were the same, %d greater", same, greater)
	}
}

// ease makes something of a garage easier, if there is something.
func ease(r *rand.Rand, x *charge.Garage) {
	if len(x.Buses) == 0 || len(x.Slots) == 0 {
		return
	}
	s, b, by := &x.Slots[r.Intn(len(x.Slots))], &x.Buses[r.Intn(len(x.Buses))], 1+r.Intn(3)
	switch r.Intn(7) {
	case 0:
		s.Power = min(1000, s.Power+by)
	case 1:
		s.Price = max(0, s.Price-by)
	case 2:
		b.Rate = min(1000, b.Rate+by)
	case 3:
		b.From = max(0, b.From-by)
	case 4:
		b.To = min(12, b.To+by)
	case 5:
		b.Home.Lo = min(b.Home.Hi, b.Home.Lo+by)
	case 6:
		b.Use.Hi = max(b.Use.Lo, b.Use.Hi-by)
	}
}

// eased counts garages that are cheaper, or possible, in another form.
type eased struct{ cheaper, possible int }

// check: if there is a plan there is one in the other form, and it does not cost more.
func (n *eased) check(t *testing.T, x, y charge.Garage) {
	t.Helper()
	_, before, was := mustBest(t, x)
	_, least, is := mustBest(t, y)
	if was && (!is || least > before) {
		t.Fatalf("Best of %v: %d, of %v: %d, %v", x, before, y, least, is)
	}
	if was && least < before {
		n.cheaper++
	}
	if is && !was {
		n.possible++
	}
}

func (n *eased) checkMany(t *testing.T, cheaper, possible int) {
	t.Helper()
	if n.cheaper < cheaper || n.possible < possible {
		t.Errorf("%d garages were cheaper, %d possible", n.cheaper, n.possible)
	}
}

// P5.9: what is easier does not cost more.
func TestEasier(t *testing.T) {
	var n eased
	check := func(t *testing.T, r *rand.Rand, x charge.Garage) {
		for range 10 {
			y := cloneGarage(x)
			ease(r, &y)
			n.check(t, x, y)
		}
	}
	forRandomGarages(t, check)
	forLargeGarages(t, check)
	n.checkMany(t, 500, 50)
}

// P5.10: without a bus it does not cost more.
func TestBusLess(t *testing.T) {
	var n eased
	check := func(t *testing.T, r *rand.Rand, x charge.Garage) {
		for number := range x.Buses {
			y := cloneGarage(x)
			y.Buses = slices.Delete(y.Buses, number, number+1)
			n.check(t, x, y)
		}
	}
	forRandomGarages(t, check)
	forLargeGarages(t, check)
	n.checkMany(t, 200, 50)
}

// parted has the parts of a night before a slot, and from it on. A bus that is there
// before and behind leaves before.
func parted(x charge.Garage, split int) (whole, first, second charge.Garage) {
	whole = cloneGarage(x)
	first.Slots, second.Slots = whole.Slots[:split:split], whole.Slots[split:]
	for number := range whole.Buses {
		b := &whole.Buses[number]
		if b.From >= split {
			later := *b
			later.From, later.To = b.From-split, b.To-split
			second.Buses = append(second.Buses, later)
			continue
		}
		b.To = min(split, b.To)
		first.Buses = append(first.Buses, *b)
	}
	return whole, first, second
}

// P5.11: two parts of a night in which no bus is there in both.
func TestTwoNights(t *testing.T) {
	both, one := 0, 0
	check := func(t *testing.T, r *rand.Rand, x charge.Garage) {
		split := r.Intn(len(x.Slots) + 1)
		for number := range x.Buses {
			if b := &x.Buses[number]; r.Intn(2) == 0 {
				b.From, b.To = split, len(x.Slots)
			}
		}
		whole, first, second := parted(x, split)
		_, n, ok := mustBest(t, whole)
		_, n1, ok1 := mustBest(t, first)
		_, n2, ok2 := mustBest(t, second)
		if ok != (ok1 && ok2) || ok && n != n1+n2 {
			t.Fatalf("Best of %v: %d, %v; of its parts: %d, %v, and %d, %v", whole, n, ok, n1, ok1, n2, ok2)
		}
		if ok && n1 > 0 && n2 > 0 {
			both++
		}
		if ok1 != ok2 {
			one++
		}
	}
	forRandomGarages(t, check)
	forLargeGarages(t, check)
	if both < 50 || one < 50 {
		t.Errorf("%d garages had plans for both parts, %d for one", both, one)
	}
}

// P5.12: buses in another order, and all Prices as many times as great.
func TestNumbers(t *testing.T) {
	some := 0
	check := func(t *testing.T, r *rand.Rand, x charge.Garage) {
		times := r.Intn(4)
		y := cloneGarage(x)
		r.Shuffle(len(y.Buses), func(i, j int) { y.Buses[i], y.Buses[j] = y.Buses[j], y.Buses[i] })
		dearer := cloneGarage(y)
		for slot := range dearer.Slots {
			dearer.Slots[slot].Price *= times
		}
		if charge.CheckGarage(dearer) != 0 {
			return
		}
		_, n, ok := mustBest(t, x)
		_, n1, ok1 := mustBest(t, y)
		_, n2, ok2 := mustBest(t, dearer)
		if ok1 != ok || ok2 != ok || n1 != n || n2 != n*times {
			t.Fatalf("Best of %v: %d, %v; in another order %d, %v; %d times as dear %d, %v", x, n, ok, n1, ok1, times, n2, ok2)
		}
		checkLacks(t, x, y)
		if ok && n > 0 {
			some++
		}
	}
	forRandomGarages(t, check)
	forLargeGarages(t, check)
	if some < 200 {
		t.Errorf("%d garages had a plan", some)
	}
}

// checkLacks: the greatest lacks of two garages are the same.
func checkLacks(t *testing.T, x, y charge.Garage) {
	t.Helper()
	_, n1, ok1 := mustLack(t, x)
	_, n2, ok2 := mustLack(t, y)
	if n1 != n2 || ok1 != ok2 {
		t.Fatalf("Lack of %v: %d, of %v: %d", x, n1, y, n2)
	}
}
