package lane_test

import (
	"math/rand"
	"slices"
	"testing"

	"layover/lane"
)

// checkWorst: an order that is possible, and buses that break down, have just so
// many shunts.
func checkWorst(t *testing.T, x lane.Yard, lanes []int, want int) {
	t.Helper()
	order, broken, many := mustWorst(t, x, lanes)
	if many != want || !lane.ProveOrder(x, order) || !pairsArePossible(x, order) {
		t.Errorf("Worst of %v, %v: %v, %v, %d, not %d", x, lanes, order, broken, many, want)
		return
	}
	if found := mustShunts(t, night{x, lanes, order, broken}); len(found) != many || !slices.Equal(found, shunts(x, lanes, order, broken)) {
		t.Errorf("Shunts of the worst of %v, %v: %v", x, lanes, found)
	}
}

// P4.4: Worst, with the numbers that are known.
func TestWorst(t *testing.T) {
	third := exampleBy(func(x *lane.Yard) { x.Room = []int{2, 2, 2} })
	down := exampleBy(func(x *lane.Yard) { x.Broken = 1 })
	more := exampleBy(func(x *lane.Yard) { x.Broken = 2 })
	for name, x := range map[string]struct {
		yard  lane.Yard
		lanes []int
		want  int
	}{
		"example":                 {example(), []int{0, 0, 1, 1}, 2},
		"example, other lanes":    {example(), []int{0, 1, 1, 0}, 2},
		"example, a third lane":   {third, []int{0, 0, 1, 2}, 1},
		"example, one broken":     {down, []int{0, 0, 1, 1}, 2},
		"example, two broken":     {more, []int{0, 1, 0, 1}, 2},
		"no buses":                {yard(2, 2), nil, 0},
		"one bus":                 {yard(1, 2, bus(0, 5, 3)), []int{0}, 0},
		"all rising":              {yard(1, 0, inOrder(1, 2, 3)...), []int{0, 0, 0}, 0},
		"all rising, one broken":  {yard(1, 1, inOrder(1, 2, 3)...), []int{0, 0, 0}, 1},
		"all rising, two broken":  {yard(1, 2, inOrder(1, 2, 3)...), []int{0, 0, 0}, 2},
		"two broken of two":       {yard(1, 2, inOrder(1, 2)...), []int{0, 0}, 1},
		"two broken in one lane":  {yard(3, 2, inOrder(1, 2, 3, 4, 5)...), []int{0, 0, 0, 1, 2}, 2},
		"one broken in each lane": {yard(2, 2, inOrder(1, 2, 3, 4)...), []int{0, 0, 1, 1}, 2},
		"one broken of two lanes": {yard(2, 1, inOrder(1, 2, 3, 4)...), []int{0, 0, 1, 1}, 1},
		"two broken of 3 lanes":   {yard(3, 2, inOrder(1, 2, 3, 4, 5, 6)...), []int{0, 0, 1, 1, 2, 2}, 2},
		"two broken in the last":  {yard(3, 2, inOrder(3, 1, 2, 4, 5)...), []int{0, 1, 2, 2, 2}, 2},
		"broken beside shunted":   {yard(1, 1, inOrder(3, 4, 1, 2)...), []int{0, 0, 0, 0}, 3},
		"none broken is worse":    {yard(1, 2, inOrder(3, 2, 1)...), []int{0, 0, 0}, 2},
		"the same minute":         {yard(1, 0, bus(1, 4, 1), bus(4, 6, 2), bus(7, 8, 3)), []int{0, 0, 0}, 1},
		"not the same minute":     {yard(1, 0, bus(1, 3, 1), bus(4, 6, 2), bus(7, 8, 3)), []int{0, 0, 0}, 0},
		"late or early":           {yard(1, 0, bus(5, 5, 1), bus(4, 9, 2), bus(7, 7, 3)), []int{0, 0, 0}, 1},
		"early before both":       {yard(1, 0, bus(5, 8, 1), bus(4, 9, 2), bus(7, 7, 3)), []int{0, 0, 0}, 2},
		"any minute, one lane":    {yard(1, 0, anyMinute(upTo(7)...)...), repeated(0, 8), 7},
		"any minute, two broken":  {yard(1, 2, anyMinute(upTo(7)...)...), repeated(0, 8), 7},
		"any minute, 3 lanes":     {yard(3, 2, anyMinute(upTo(7)...)...), []int{0, 1, 2, 0, 1, 2, 0, 1}, 5},
		"8 falling":               {yard(1, 0, inOrder(7, 6, 5, 4, 3, 2, 1, 0)...), repeated(0, 8), 7},
		"8 rising":                {yard(1, 2, inOrder(upTo(7)...)...), repeated(0, 8), 2},
		"a lane for each":         {yard(3, 2, inOrder(2, 1, 0)...), []int{2, 0, 1}, 0},
		"turns 0 and 2000":        {yard(1, 1, inOrder(0, 2000)...), []int{0, 0}, 1},
	} {
		t.Run(name, func(t *testing.T) { checkWorst(t, x.yard, x.lanes, x.want) })
	}
}

// P4.4, P4.6: Worst by the definition, of all lanes: each order that is possible,
// and each list of those that break down, is tried.
func TestWorstByDefinition(t *testing.T) {
	var numbers [5]int
	forRandomYards(t, func(t *testing.T, r *rand.Rand, x lane.Yard) {
		for lanes := range lists(len(x.Buses), len(x.Room)) {
			if areLanes(x, lanes) {
				want := worst(x, lanes)
				checkWorst(t, x, lanes, want)
				numbers[want]++
			}
		}
	})
	if slices.Min(numbers[:4]) < 30 {
		t.Errorf("the worst numbers were %v times 0, 1, ..", numbers)
	}
}

// P4.4, P4.6: as many buses as there may be, in a few of their lanes.
func TestWorstLargest(t *testing.T) {
	r := rand.New(rand.NewSource(44))
	for number := range 24 {
		x := randomYard(r, 1+number%3, 8)
		x.Room = repeated(8, len(x.Room))
		for place := range x.Buses {
			x.Buses[place].Hi = min(x.Buses[place].Hi, x.Buses[place].Lo+6)
		}
		lanes, _ := anyLanes(r, x)
		checkWorst(t, x, lanes, worst(x, lanes))
	}
}

// P4.5: Best, with the lanes that are known.
func TestBest(t *testing.T) {
	for name, x := range map[string]struct {
		yard  lane.Yard
		lanes []int
		many  int
	}{
		"example":               {example(), []int{0, 0, 1, 1}, 2},
		"example, a third lane": {exampleBy(func(x *lane.Yard) { x.Room = []int{2, 2, 2} }), []int{0, 0, 1, 2}, 1},
		"no buses":              {yard(3, 2), nil, 0},
		"one bus":               {yard(3, 2, bus(0, 0, 0)), []int{0}, 0},
		"one bus, no Room in 0": {lane.Yard{Room: []int{0, 1}, Buses: inOrder(0)}, []int{1}, 0},
		"all rising":            {yard(3, 0, inOrder(upTo(7)...)...), repeated(0, 8), 0},
		"all rising, no Room":   {lane.Yard{Room: []int{3, 1, 4}, Buses: inOrder(upTo(7)...)}, []int{0, 0, 0, 1, 2, 2, 2, 2}, 0},
		"all falling":           {yard(3, 0, inOrder(3, 2, 1, 0)...), []int{0, 0, 1, 2}, 1},
		"a lane for each":       {yard(3, 2, inOrder(2, 1, 0)...), []int{0, 1, 2}, 0},
		"the least list":        {yard(2, 0, inOrder(1, 0)...), []int{0, 1}, 0},
		"broken, two lanes":     {yard(2, 1, inOrder(0, 1, 2)...), []int{0, 0, 0}, 1},
		"two broken, a lane":    {yard(3, 2, inOrder(0, 1, 2)...), []int{0, 1, 2}, 0},
		"two broken":            {yard(2, 2, inOrder(0, 1, 2)...), []int{0, 0, 1}, 1},
		"Room 1, 2":             {lane.Yard{Room: []int{1, 2}, Buses: []lane.Bus{bus(1, 1, 2), bus(2, 2, 1), bus(3, 3, 3)}}, []int{0, 1, 1}, 0},
		"Room 1, 2, one broken": {lane.Yard{Room: []int{1, 2}, Buses: []lane.Bus{bus(1, 1, 3), bus(2, 2, 1), bus(3, 3, 2)}, Broken: 1}, []int{0, 1, 1}, 1},
		"any minute":            {yard(3, 2, anyMinute(upTo(7)...)...), []int{0, 0, 0, 0, 0, 0, 1, 2}, 5},
		"any minute, Room 3":    {lane.Yard{Room: []int{3, 3, 3}, Buses: anyMinute(upTo(7)...), Broken: 2}, []int{0, 0, 0, 1, 1, 1, 2, 2}, 5},
		"two rows":              {yard(2, 0, inOrder(4, 0, 5, 1, 6, 2, 7, 3)...), []int{0, 1, 0, 1, 0, 1, 0, 1}, 0},
		"two rows in one lane":  {yard(1, 0, inOrder(4, 0, 5, 1, 6, 2, 7, 3)...), repeated(0, 8), 4},
	} {
		lanes, many, ok := mustBest(t, x.yard)
		if !ok || !slices.Equal(lanes, x.lanes) || many != x.many {
			t.Errorf("%s: Best: %v, %d, %v, not %v, %d", name, lanes, many, ok, x.lanes, x.many)
		}
	}
}

// P4.5, P4.8, P4: Best by the definition: any other lanes are tried.
func TestBestByDefinition(t *testing.T) {
	some, none, apart := 0, 0, 0
	forRandomYards(t, func(t *testing.T, r *rand.Rand, x lane.Yard) {
		want, least := best(x)
		lanes, many, ok := mustBest(t, x)
		switch {
		case ok != (least >= 0):
			t.Errorf("Best of %v: %v, %d, %v", x, lanes, many, ok)
		case !ok:
			none++
		case !slices.Equal(lanes, want) || many != least:
			t.Errorf("Best of %v: %v, %d, not %v, %d", x, lanes, many, want, least)
		default:
			some++
			apart += len(slices.Compact(lanes))
		}
	})
	if some < 150 || none < 10 || apart < 300 {
		t.Errorf("%d yards had best lanes, %d none; %d lanes", some, none, apart)
	}
}
