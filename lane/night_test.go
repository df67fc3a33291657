package lane_test

import (
	"math/rand"
	"slices"
	"testing"

	"layover/lane"
)

// P4.1: ProveOrder of the example, and of buses that come at the same minute.
func TestProveOrder(t *testing.T) {
	for _, x := range []struct {
		order []int
		want  bool
	}{
		{[]int{0, 1, 2, 3}, true}, {[]int{1, 0, 2, 3}, true}, {[]int{0, 2, 1, 3}, true}, {[]int{2, 0, 1, 3}, false}, {[]int{1, 2, 0, 3}, false}, {[]int{0, 1, 3, 2}, false},
	} {
		if lane.ProveOrder(example(), x.order) != x.want {
			t.Errorf("ProveOrder of %v: %v", x.order, !x.want)
		}
	}
	for low, want := range map[int]bool{19: true, 20: true, 21: false} {
		x := yard(1, 0, bus(10, 20, 1), bus(low, 30, 2))
		if !lane.ProveOrder(x, []int{0, 1}) || lane.ProveOrder(x, []int{1, 0}) != want {
			t.Errorf("from %d: ProveOrder: %v", low, !want)
		}
	}
	// The last one is asked of the first one, although the one between may be behind it.
	far := yard(1, 0, bus(5, 9, 1), bus(0, 9, 2), bus(0, 4, 3))
	if lane.ProveOrder(far, []int{0, 1, 2}) || !lane.ProveOrder(far, []int{1, 2, 0}) {
		t.Error("ProveOrder of the first one and the last one")
	}
	if !lane.ProveOrder(yard(1, 0), nil) || lane.ProveOrder(yard(1, 0), []int{0}) {
		t.Error("ProveOrder without buses")
	}
}

// P4.1, P2: an order is possible if minutes can be found that never fall.
func TestProveOrderByMinutes(t *testing.T) {
	possible, others := 0, 0
	forRandomYards(t, func(t *testing.T, r *rand.Rand, x lane.Yard) {
		for order := range lists(len(x.Buses), len(x.Buses)) {
			want := isOrder(order) && minutesCanBeFound(x, order, 0)
			if lane.ProveOrder(x, order) != want {
				t.Errorf("ProveOrder of %v in %v: %v", order, x, !want)
			}
			if want {
				possible++
			} else if isOrder(order) {
				others++
			}
		}
	})
	if possible < 500 || others < 500 {
		t.Errorf("%d orders were possible, %d not", possible, others)
	}
}

func isOrder(list []int) bool {
	sorted := slices.Sorted(slices.Values(list))
	return slices.Equal(sorted, upTo(len(list)-1))
}

// minutesCanBeFound tries all minutes of the first bus, from a minute on.
func minutesCanBeFound(x lane.Yard, order []int, from int) bool {
	if len(order) == 0 {
		return true
	}
	b := x.Buses[order[0]]
	for minute := max(b.Lo, from); minute <= b.Hi; minute++ {
		if minutesCanBeFound(x, order[1:], minute) {
			return true
		}
	}
	return false
}

// P4.2, P4.3: nights of which the shunts are known.
func TestShuntsAndMorning(t *testing.T) {
	down := exampleBy(func(x *lane.Yard) { x.Broken = 2 })
	falling := yard(1, 2, inOrder(30, 20, 10)...)
	rising := yard(1, 2, inOrder(10, 20, 30)...)
	mixed := yard(2, 1, inOrder(50, 10, 40, 20, 30)...)
	for name, x := range map[string]struct {
		night  night
		shunts []int
		told   [][]int
	}{
		"example":                 {night{example(), []int{0, 0, 1, 1}, []int{0, 1, 2, 3}, nil}, []int{0, 2}, [][]int{{2}, {0}, nil, nil}},
		"example, other order":    {night{example(), []int{0, 0, 1, 1}, []int{1, 0, 2, 3}, nil}, []int{2}, [][]int{{2}, nil, nil, nil}},
		"two before one":          {night{falling, []int{0, 0, 0}, []int{0, 1, 2}, nil}, []int{0, 1}, [][]int{{0, 1}, nil, nil}},
		"none in the way":         {night{rising, []int{0, 0, 0}, []int{0, 1, 2}, nil}, nil, [][]int{nil, nil, nil}},
		"the first stays":         {night{rising, []int{0, 0, 0}, []int{0, 1, 2}, []int{0}}, []int{0}, [][]int{{0}, nil}},
		"the second stays":        {night{rising, []int{0, 0, 0}, []int{0, 1, 2}, []int{1}}, []int{1}, [][]int{nil, {1}}},
		"the last stays":          {night{rising, []int{0, 0, 0}, []int{0, 1, 2}, []int{2}}, nil, [][]int{nil, nil}},
		"the first two stay":      {night{rising, []int{0, 0, 0}, []int{0, 1, 2}, []int{0, 1}}, []int{0, 1}, [][]int{{0, 1}}},
		"the last two stay":       {night{rising, []int{0, 0, 0}, []int{0, 1, 2}, []int{1, 2}}, nil, [][]int{nil}},
		"the hindered one stays":  {night{falling, []int{0, 0, 0}, []int{0, 1, 2}, []int{2}}, []int{0}, [][]int{{0}, nil}},
		"one before stays":        {night{falling, []int{0, 0, 0}, []int{0, 1, 2}, []int{0}}, []int{0, 1}, [][]int{{0, 1}, nil}},
		"only the first goes out": {night{falling, []int{0, 0, 0}, []int{0, 1, 2}, []int{1, 2}}, nil, [][]int{nil}},
		"only the last goes out":  {night{falling, []int{0, 0, 0}, []int{0, 1, 2}, []int{0, 1}}, []int{0, 1}, [][]int{{0, 1}}},
		"one gone is not shunted": {night{mixed, []int{0, 0, 0, 0, 0}, []int{0, 1, 2, 3, 4}, nil}, []int{0, 2}, [][]int{{0}, {2}, nil, nil, nil}},
		"in two lanes":            {night{mixed, []int{0, 0, 1, 0, 1}, []int{0, 1, 2, 3, 4}, nil}, []int{0, 2}, [][]int{{0}, nil, {2}, nil, nil}},
		"a broken one and others": {night{mixed, []int{0, 0, 0, 0, 0}, []int{0, 1, 2, 3, 4}, []int{1}}, []int{0, 1, 2}, [][]int{{0, 1, 2}, nil, nil, nil}},
		"a lane for each":         {night{down, []int{1, 0, 0, 1}, []int{0, 1, 2, 3}, []int{0, 1}}, []int{0, 1}, [][]int{{0}, {1}}},
		"all stay":                {night{yard(1, 2, inOrder(1, 0)...), []int{0, 0}, []int{0, 1}, []int{0, 1}}, nil, nil},
		"no buses":                {night{yard(1, 2), nil, nil, nil}, nil, nil},
		"turns 0 and 2000":        {night{yard(1, 1, inOrder(2000, 0)...), []int{0, 0}, []int{0, 1}, nil}, []int{0}, [][]int{{0}, nil}},
		"a broken one behind":     {night{yard(1, 1, inOrder(2000, 0)...), []int{0, 0}, []int{0, 1}, []int{1}}, nil, [][]int{nil}},
		"the last turn goes out":  {night{yard(1, 1, inOrder(0, 2000)...), []int{0, 0}, []int{0, 1}, []int{0}}, []int{0}, [][]int{{0}}},
	} {
		if found := mustShunts(t, x.night); !slices.Equal(found, x.shunts) {
			t.Errorf("%s: Shunts: %v, not %v", name, found, x.shunts)
		}
		if told := mustMorning(t, x.night); !slices.EqualFunc(told, x.told, slices.Equal[[]int]) {
			t.Errorf("%s: Morning: %v, not %v", name, told, x.told)
		}
	}
}

// P4.3: of those that are shunted for one bus the one that came first is first,
// whatever their numbers and Turns.
func TestMorningNearest(t *testing.T) {
	x := yard(1, 1, anyMinute(10, 40, 20, 30)...)
	for _, order := range [][]int{{1, 2, 3, 0}, {3, 1, 2, 0}, {2, 3, 1, 0}, {3, 2, 1, 0}} {
		n := night{x, []int{0, 0, 0, 0}, order, nil}
		if told := mustMorning(t, n); !slices.Equal(told[0], order[:3]) || len(told) != 4 {
			t.Errorf("Morning of %v: %v", order, told)
		}
		if found := mustShunts(t, n); !slices.Equal(found, []int{1, 2, 3}) {
			t.Errorf("Shunts of %v: %v", order, found)
		}
	}
}

// P4.2: Shunts by the definition, and P4.3: Morning as if it were driven.
func TestShuntsByDefinition(t *testing.T) {
	some, broken := 0, 0
	forRandomNights(t, func(t *testing.T, r *rand.Rand, n night) {
		want := shunts(n.yard, n.lanes, n.order, n.broken)
		if found := mustShunts(t, n); !slices.Equal(found, want) {
			t.Errorf("Shunts of %v: %v, not %v", n, found, want)
		}
		driven := drive(n.yard, n.lanes, n.order, n.broken)
		if told := mustMorning(t, n); !slices.EqualFunc(told, driven, slices.Equal[[]int]) {
			t.Errorf("Morning of %v: %v, not %v", n, told, driven)
		}
		some += len(want)
		for _, number := range n.broken {
			if slices.Contains(want, number) {
				broken++
			}
		}
	})
	if some < 1000 || broken < 150 {
		t.Errorf("only %d were shunted, %d of them broken", some, broken)
	}
}
