package charge_test

import (
	"math/rand"
	"slices"
	"testing"

	"layover/api"
	"layover/charge"
)

// few has three slots with this Power, and a bus for each need, which takes 4 in a slot.
func few(power int, needs ...int) charge.Garage {
	x := garage(slots(power, 3, 1, 2))
	for _, n := range needs {
		x.Buses = append(x.Buses, bus(0, 3, 4, n))
	}
	return x
}

// greatest is a garage in which all is as great as it may be.
func greatest() charge.Garage {
	var x charge.Garage
	for range 12 {
		x.Slots = append(x.Slots, charge.Slot{Power: 1000, Price: 1000})
	}
	for range 5 {
		x.Buses = append(x.Buses, bus(0, 12, 1000, 1000))
	}
	return x
}

// P5.3, P5.4, P5.8: Best and Proof, and no Lack.
func TestBest(t *testing.T) {
	for name, x := range map[string]struct {
		garage charge.Garage
		want   int
	}{
		"example":                     {example(), 15},
		"nothing":                     {charge.Garage{}, 0},
		"no buses":                    {garage(slots(5, 1, 2)), 0},
		"no slots":                    {garage(nil, bus(0, 12, 5, 0)), 0},
		"no needs":                    {few(5, 0, 0, 0), 0},
		"the cheapest slot":           {few(4, 4), 4},
		"the cheapest ones":           {few(4, 6), 8},
		"all slots":                   {few(4, 12), 24},
		"by the Rate":                 {few(9, 9), 15},
		"by the Power":                {few(3, 9), 18},
		"two of them":                 {few(5, 4, 4), 11},
		"no Price":                    {garage(slots(5, 0, 0), bus(0, 2, 5, 9)), 0},
		"no Rate, no need":            {garage(slots(5, 1), bus(0, 1, 0, 0)), 0},
		"never there, no need":        {garage(slots(5, 1), bus(1, 1, 5, 0)), 0},
		"no Power, no need":           {garage(slots(0, 7), bus(0, 1, 5, 0)), 0},
		"no Power in the cheap slot":  {garage([]charge.Slot{{Power: 0, Price: 0}, {Power: 5, Price: 9}}, bus(0, 2, 5, 5)), 45},
		"no Power, and the dearest":   {garage([]charge.Slot{{Power: 0, Price: 0}, {Power: 5, Price: 1000}}, bus(0, 2, 5, 5)), 5000},
		"not there in the cheap slot": {garage(slots(5, 9, 0, 9), bus(0, 1, 5, 2), bus(2, 3, 5, 2)), 36},
		"there behind the slots":      {garage(slots(5, 9, 8), bus(1, 12, 5, 5)), 40},
		"one gives way":               {garage(slots(4, 1, 5), bus(0, 2, 4, 4), bus(0, 1, 4, 4)), 24},
		"the other one gives way":     {garage(slots(4, 1, 5), bus(0, 1, 4, 4), bus(0, 2, 4, 4)), 24},
		"one gives way in part":       {garage(slots(4, 1, 5), bus(0, 2, 4, 4), bus(0, 1, 4, 1)), 9},
		"each gives way to the next":  {garage(slots(2, 1, 2, 9), bus(0, 3, 2, 2), bus(0, 2, 2, 2), bus(0, 1, 2, 2)), 24},
		"each one, in two slots":      {garage(slots(2, 1, 2, 9), bus(0, 3, 1, 2), bus(0, 3, 1, 2), bus(0, 3, 2, 2)), 24},
		// The bus 1 has to leave 2 of the slot 1, but takes only 3 in the slot 2.
		"one gives way by its Rate": {garage([]charge.Slot{{Power: 3, Price: 10}, {Power: 3, Price: 1}, {Power: 9, Price: 4}}, bus(0, 2, 3, 4), bus(1, 3, 3, 4)), 35},
		"as great as may be":        {greatest(), 5000000},
	} {
		if _, least, ok := mustBest(t, x.garage); !ok || least != x.want {
			t.Errorf("%s: Best: %d, %v", name, least, ok)
		}
		checkProof(t, x.garage, x.want)
		if buses, many, ok := mustLack(t, x.garage); ok {
			t.Errorf("%s: Lack: %v, %d", name, buses, many)
		}
	}
}

// checkProof: there is a proof that no plan costs less.
func checkProof(t *testing.T, x charge.Garage, least int) {
	t.Helper()
	worths, surcharges, ok := mustProof(t, x)
	if !ok || mustBound(t, x, worths, surcharges) != least || bound(x, worths, surcharges) != least {
		t.Errorf("Proof of %v: %v, %v, %v", x, worths, surcharges, ok)
	}
}

// P5.3, P5.4: Best and Proof, with all amounts tried.
func TestBestOfAll(t *testing.T) {
	some, none := 0, 0
	forRandomGarages(t, func(t *testing.T, r *rand.Rand, x charge.Garage) {
		_, least, ok := mustBest(t, x)
		want, possible := cheapest(x)
		if ok != possible || ok && least != want {
			t.Fatalf("Best of %v: %d, %v, not %d, %v", x, least, ok, want, possible)
		}
		if !ok {
			none++
			if worths, surcharges, ok := mustProof(t, x); ok {
				t.Errorf("Proof of %v: %v, %v", x, worths, surcharges)
			}
			return
		}
		checkProof(t, x, least)
		if least > 0 {
			some++
		}
	})
	if some < 200 || none < 200 {
		t.Errorf("%d plans, %d none", some, none)
	}
}

// P5.3, P5.4, P5.5: as many slots and buses as there may be, and great numbers. A
// proof shows that no plan costs less, or a lack that there is none.
func TestBestOfLarge(t *testing.T) {
	some, none := 0, 0
	forLargeGarages(t, func(t *testing.T, r *rand.Rand, x charge.Garage) {
		_, least, ok := mustBest(t, x)
		if ok {
			checkProof(t, x, least)
			some++
			return
		}
		if _, many, ok := mustLack(t, x); !ok || many != mostLack(x) {
			t.Errorf("Lack of %v: %d, %v", x, many, ok)
		}
		none++
	})
	if some < 200 || none < 200 {
		t.Errorf("%d plans, %d none", some, none)
	}
}

// P5.4: Bound.
func TestBound(t *testing.T) {
	for name, x := range map[string]struct {
		garage             charge.Garage
		worths, surcharges []int
		want               int
	}{
		"example":                   {example(), []int{3, 2}, []int{0, 1, 0}, 15},
		"no worths":                 {example(), []int{0, 0}, []int{0, 0, 0}, 0},
		"only surcharges":           {example(), []int{0, 0}, []int{1, 2, 3}, -30},
		"less than the prices":      {example(), []int{1, 1}, []int{0, 0, 0}, 9},
		"more than a price":         {example(), []int{3, 2}, []int{0, 0, 0}, 18 + 6 - 8 - 3},
		"more in all slots":         {example(), []int{5, 4}, []int{0, 1, 0}, 30 + 12 - 5 - 4*2 - 4*3 - 3*2 - 3*2},
		"worths below 0":            {example(), []int{-2, -1}, []int{0, 0, 0}, -15},
		"one below 0":               {example(), []int{-1, 2}, []int{0, 1, 0}, -6 + 6 - 5},
		"a need of 0":               {exampleBy(func(x *charge.Garage) { x.Buses[0].Home = to(20, 20) }), []int{3, 2}, []int{0, 1, 0}, 6 - 5 - 4},
		"no slots":                  {garage(nil, bus(0, 12, 5, 7)), []int{100000}, nil, 700000},
		"no buses":                  {garage(slots(5, 1, 2)), nil, []int{100000, 3}, -500015},
		"nothing":                   {charge.Garage{}, nil, nil, 0},
		"there behind the slots":    {garage(slots(5, 1), bus(0, 12, 5, 7)), []int{2}, []int{0}, 9},
		"as great as may be":        {greatest(), slices.Repeat([]int{100000}, 5), slices.Repeat([]int{100000}, 12), 5*1000*100000 - 12*1000*100000},
		"great worths":              {greatest(), slices.Repeat([]int{100000}, 5), make([]int, 12), 5*1000*100000 - 5*12*1000*99000},
		"worths as small as may be": {greatest(), slices.Repeat([]int{-100000}, 5), make([]int, 12), -5 * 1000 * 100000},
	} {
		if n := mustBound(t, x.garage, x.worths, x.surcharges); n != x.want {
			t.Errorf("%s: Bound: %d, not %d", name, n, x.want)
		}
	}
}

// P5.4: Bound of any worths and surcharges.
func TestBoundOfAny(t *testing.T) {
	forRandomGarages(t, func(t *testing.T, r *rand.Rand, x charge.Garage) {
		worths, surcharges := anyWorths(r, x)
		if n := mustBound(t, x, worths, surcharges); n != bound(x, worths, surcharges) {
			t.Errorf("Bound of %v, %v, %v: %d", x, worths, surcharges, n)
		}
	})
}

// anyWorths has worths and surcharges about the prices, and few others.
func anyWorths(r *rand.Rand, x charge.Garage) (worths, surcharges []int) {
	for range x.Buses {
		worths = append(worths, []int{r.Intn(9), r.Intn(9), r.Intn(9) - 4, r.Intn(200001) - 100000}[r.Intn(4)])
	}
	for range x.Slots {
		surcharges = append(surcharges, []int{0, r.Intn(4), r.Intn(9), r.Intn(100001)}[r.Intn(4)])
	}
	return worths, surcharges
}

// P5.5: Lack.
func TestLack(t *testing.T) {
	for name, x := range map[string]struct {
		garage charge.Garage
		want   int
		buses  [][]int // those that lack most
	}{
		"example":            {exampleBy(func(x *charge.Garage) { x.Slots[1].Power = 1 }), 1, [][]int{{0}, {0, 1}}},
		"no slots":           {garage(nil, bus(0, 12, 5, 7), bus(0, 12, 5, 0)), 7, [][]int{{0}, {0, 1}}},
		"two without slots":  {garage(nil, bus(0, 12, 5, 7), bus(0, 12, 5, 1)), 8, [][]int{{0, 1}}},
		"never there":        {garage(slots(9, 1), bus(1, 1, 5, 3)), 3, [][]int{{0}}},
		"there too late":     {garage(slots(9, 1), bus(1, 12, 5, 3)), 3, [][]int{{0}}},
		"no Rate":            {garage(slots(9, 1), bus(0, 1, 0, 3)), 3, [][]int{{0}}},
		"no Power":           {garage(slots(0, 1), bus(0, 1, 4, 3)), 3, [][]int{{0}}},
		"the Rate too small": {garage(slots(9, 1, 1), bus(0, 2, 4, 9), bus(0, 2, 4, 8)), 1, [][]int{{0}}},
		"the Power too small": {
			garage(slots(4, 1, 5), bus(0, 2, 4, 4), bus(0, 1, 4, 4), bus(1, 2, 4, 4)), 4, [][]int{{0, 1, 2}},
		},
		"not the first ones": {garage(slots(4, 1, 5), bus(0, 1, 4, 1), bus(1, 2, 2, 2), bus(1, 2, 3, 4)), 2, [][]int{{1, 2}}},
		"one has more than it needs": {
			// The slot 0 is only for the bus 0: the others lack more without it.
			garage(slots(9, 1, 1), bus(0, 1, 9, 1), bus(1, 2, 9, 8), bus(1, 2, 9, 8)), 7, [][]int{{1, 2}},
		},
		"all buses": {garage(slots(1, 1), bus(0, 1, 1, 1), bus(0, 1, 1, 1), bus(0, 1, 1, 1), bus(0, 1, 1, 1), bus(0, 1, 1, 1)), 4, [][]int{{0, 1, 2, 3, 4}}},
		"all as great as may be": {
			garage(nil, bus(0, 12, 1000, 1000), bus(0, 12, 1000, 1000), bus(0, 12, 1000, 1000), bus(0, 12, 1000, 1000), bus(0, 12, 1000, 1000)), 5000, [][]int{{0, 1, 2, 3, 4}},
		},
	} {
		buses, many, ok := mustLack(t, x.garage)
		if !ok || many != x.want || !slices.ContainsFunc(x.buses, func(list []int) bool { return slices.Equal(list, buses) }) {
			t.Errorf("%s: Lack: %v, %d, %v", name, buses, many, ok)
		}
		if plan, least, ok := mustBest(t, x.garage); ok {
			t.Errorf("%s: Best: %v, %d", name, plan, least)
		}
		if worths, surcharges, ok := mustProof(t, x.garage); ok {
			t.Errorf("%s: Proof: %v, %v", name, worths, surcharges)
		}
	}
	if b, n, e := charge.Lack(example()); b != nil || n != 0 || e != api.ErrNone {
		t.Errorf("Lack of the example: %v, %d, %v", b, n, e)
	}
}

// P5.5: Lack, with all buses tried.
func TestLackOfAll(t *testing.T) {
	lacking := 0
	forRandomGarages(t, func(t *testing.T, r *rand.Rand, x charge.Garage) {
		buses, many, ok := mustLack(t, x)
		if most := mostLack(x); ok != (most > 0) || many != most {
			t.Errorf("Lack of %v: %v, %d, not %d", x, buses, many, most)
		}
		if ok {
			lacking++
		}
	})
	if lacking < 200 {
		t.Errorf("%d garages lack something", lacking)
	}
}
