package duty_test

import (
	"math"
	"math/rand"
	"slices"
	"testing"

	"layover/api"
	"layover/duty"
)

// P2.3: Best, with the numbers that are known.
func TestBest(t *testing.T) {
	for name, x := range map[string]struct {
		day       duty.Day
		many, pay int
	}{
		"example":        {example(), 3, 990},
		"Piece 250":      {exampleBy(func(l *duty.Law) { l.Piece = 250 }), 3, 900},
		"Least 0":        {exampleBy(func(l *duty.Law) { l.Least = 0 }), 3, 780},
		"Pieces 1":       {exampleBy(func(l *duty.Law) { l.Pieces = 1 }), 4, 1200},
		"long pieces":    {exampleBy(func(l *duty.Law) { l.Piece, l.Least = 370, 0 }), 2, 630},
		"no blocks":      {easyDay(), 0, 0},
		"one segment":    {easyDay(exact(10, 30)), 1, 20},
		"no time at all": {easyDay(exact(10, 10)), 1, 0},
		"10 segments":    {easyDay(exact(0, 1, 2, 3, 4, 5, 6, 7, 8, 9, 10)), 1, 10},
		"6 at once":      {easyDay(exact(0, 9), exact(0, 9), exact(0, 9), exact(0, 9), exact(0, 9), exact(0, 9)), 6, 54},
		// With one duty less for more pay, the fewest duties are best.
		"fewer for more": {easyDay(exact(0, 10), exact(2000, 2010)), 1, 2010},
		// 0 with 1 or 2, and the others, would be paid 510 and 510, or 530 and 490.
		"the least pay": {twoPieces(easyDay(exact(0, 10), exact(500, 510), exact(520, 530), exact(20, 30))), 2, 60},
	} {
		plan, pay, e := duty.Best(x.day)
		if len(plan) != x.many || pay != x.pay || e != api.OK || !duty.ProvePlan(x.day, plan) {
			t.Errorf("%s: Best: %v, %d, %v", name, plan, pay, e)
		}
	}
}

func twoPieces(x duty.Day) duty.Day {
	x.Law.Pieces = 2
	return x
}

func TestBestExample(t *testing.T) {
	plan, pay, e := duty.Best(example())
	if !sameAll(plan, [][]int{{0, 2}, {1}, {3, 4}}) || pay != 990 || e != api.OK {
		t.Errorf("Best: %v, %d, %v", plan, pay, e)
	}
}

// isPlan is the definition.
func isPlan(x duty.Day, plan [][]int) bool {
	var done []int
	for _, list := range plan {
		if !slices.IsSorted(list) || len(list) == 0 || list[0] < 0 || list[len(list)-1] >= len(segments(x)) {
			return false
		}
		if legal, _ := inAll(x, list); !legal {
			return false
		}
		done = append(done, list...)
	}
	slices.Sort(done)
	return slices.Equal(done, listOf(all(x)))
}

// P2.3, P2.7, P4: Best is the best of all plans, its duties in their order.
func TestBestByDefinition(t *testing.T) {
	plans := 0
	forRandomDays(t, func(t *testing.T, r *rand.Rand, x duty.Day) {
		plan, pay, ok := mustBest(t, x)
		many, least, there := fewest(x)
		if ok != there || len(plan) != many || pay != least {
			t.Errorf("Best of %v: %v, %d, %v; not %d duties for %d, %v", x, plan, pay, ok, many, least, there)
		}
		if !ok {
			return
		}
		plans++
		if !isPlan(x, plan) || !duty.ProvePlan(x, plan) {
			t.Errorf("Best of %v: %v is not right", x, plan)
		}
		if !slices.IsSortedFunc(plan, func(a, b []int) int { return a[0] - b[0] }) {
			t.Errorf("Best of %v: %v is not in order", x, plan)
		}
		sum := 0
		for _, list := range plan {
			n, e := duty.Pay(x, list)
			if sum += n; e != api.OK {
				t.Errorf("Pay of %v in %v: %v", list, x, e)
			}
		}
		if sum != pay {
			t.Errorf("Best of %v: %d, its duties are paid %d", x, pay, sum)
		}
	})
	if plans < 100 {
		t.Errorf("only %d days had a plan", plans)
	}
}

// P2.3: ProvePlan.
func TestProvePlan(t *testing.T) {
	for name, x := range map[string]struct {
		plan [][]int
		want bool
	}{
		"the best one":                {[][]int{{0, 2}, {1}, {3, 4}}, true},
		"another order":               {[][]int{{3, 4}, {1}, {0, 2}}, true},
		"each segment alone":          {[][]int{{0}, {1}, {2}, {3}, {4}}, true},
		"a segment lacks":             {[][]int{{0, 2}, {1}, {3}}, false},
		"the first segment lacks":     {[][]int{{1}, {2}, {3, 4}}, false},
		"a segment twice":             {[][]int{{0, 2}, {1}, {3, 4}, {0}}, false},
		"a duty twice":                {[][]int{{0, 2}, {1}, {3, 4}, {3, 4}}, false},
		"a segment twice in a duty":   {[][]int{{0, 2}, {1, 1}, {3, 4}}, false},
		"a duty that is not legal":    {[][]int{{0, 1}, {2}, {3, 4}}, false},
		"a duty that does not rise":   {[][]int{{0, 2}, {1}, {4, 3}}, false},
		"a duty without segments":     {[][]int{{0, 2}, {1}, {3, 4}, {}}, false},
		"a nil duty":                  {[][]int{nil, {0, 2}, {1}, {3, 4}}, false},
		"a segment of no block":       {[][]int{{0, 2}, {1}, {3, 4}, {5}}, false},
		"a segment below 0":           {[][]int{{-1}, {0, 2}, {1}, {3, 4}}, false},
		"a great number":              {[][]int{{0, 2}, {1}, {3, 4}, {math.MaxInt}}, false},
		"nothing":                     {nil, false},
		"a list with nothing in it":   {[][]int{{}}, false},
		"many lists":                  {make([][]int, 1000), false},
		"a segment instead of others": {[][]int{{0}, {0}, {0}, {0}, {0}}, false},
	} {
		if duty.ProvePlan(example(), x.plan) != x.want {
			t.Errorf("%s: ProvePlan: %v", name, !x.want)
		}
	}
	for _, plan := range [][][]int{nil, {}} {
		if !duty.ProvePlan(easyDay(), plan) {
			t.Error("ProvePlan of no duties for no segments")
		}
	}
	if duty.ProvePlan(easyDay(), [][]int{{}}) || duty.ProvePlan(easyDay(), [][]int{{0}}) || duty.ProvePlan(duty.Day{}, nil) {
		t.Error("ProvePlan is true")
	}
}

func TestProvePlanByDefinition(t *testing.T) {
	right := 0
	forRandomDays(t, func(t *testing.T, r *rand.Rand, x duty.Day) {
		for range 20 {
			plan := randomPlan(r, x)
			want := isPlan(x, plan)
			if duty.ProvePlan(x, plan) != want {
				t.Errorf("ProvePlan of %v in %v: %v", plan, x, !want)
			}
			if want {
				right++
			}
		}
	})
	if right < 500 {
		t.Errorf("only %d plans were right", right)
	}
}

// randomPlan is often right: it has each segment once, or nearly so, in any order.
func randomPlan(r *rand.Rand, x duty.Day) [][]int {
	plan := make([][]int, len(segments(x)))
	for number := range plan {
		which := number
		if r.Intn(3) == 0 {
			which = r.Intn(len(plan))
		}
		plan[which] = append(plan[which], number)
	}
	if r.Intn(8) > 0 {
		plan = slices.DeleteFunc(plan, func(list []int) bool { return len(list) == 0 })
	}
	if r.Intn(8) == 0 && len(plan) > 0 {
		plan[r.Intn(len(plan))] = anyDuty(r, x)
	}
	r.Shuffle(len(plan), func(a, b int) { plan[a], plan[b] = plan[b], plan[a] })
	return plan
}

// P2.4, P5: Barred, and that there is no plan then.
func TestBarred(t *testing.T) {
	for piece, want := range map[int][]int{
		125: {0, 1, 2}, 130: {2}, 139: {2}, 110: {0, 1, 2, 4}, 109: {0, 1, 2, 3, 4}, 0: {0, 1, 2, 3, 4}, 140: nil,
	} {
		x := exampleBy(func(l *duty.Law) { l.Piece = piece })
		error, none := api.OK, api.ErrFail
		if want == nil {
			error, none = api.ErrNone, api.OK
		}
		if list, e := duty.Barred(x); !slices.Equal(list, want) || e != error {
			t.Errorf("Barred, Piece %d: %v, %v", piece, list, e)
		}
		if plan, pay, e := duty.Best(x); e != none || e != api.OK && (plan != nil || pay != 0) {
			t.Errorf("Best, Piece %d: %v, %d, %v", piece, plan, pay, e)
		}
	}
	for name, x := range map[string]duty.Day{
		"example": example(), "no blocks": easyDay(), "one segment": easyDay(exact(0, 3000)),
	} {
		if list, e := duty.Barred(x); list != nil || e != api.ErrNone {
			t.Errorf("%s: Barred: %v, %v", name, list, e)
		}
	}
	for name, change := range map[string]func(l *duty.Law){
		"Drive":      func(l *duty.Law) { l.Drive = 139 },
		"Spread":     func(l *duty.Law) { l.Spread = 159 },
		"On and Off": func(l *duty.Law) { l.On, l.Off = 230, 231 },
	} {
		if list, e := duty.Barred(exampleBy(change)); !slices.Equal(list, []int{2}) || e != api.OK {
			t.Errorf("Barred by %s: %v, %v", name, list, e)
		}
	}
}

func TestBarredByDefinition(t *testing.T) {
	forRandomDays(t, func(t *testing.T, r *rand.Rand, x duty.Day) {
		left := all(x)
		for set := range pays(x) {
			left &^= set
		}
		want := api.OK
		if left == 0 {
			want = api.ErrNone
		}
		if list, e := duty.Barred(x); !slices.Equal(list, listOf(left)) || e != want {
			t.Errorf("Barred of %v: %v, %v; not %v", x, list, e, listOf(left))
		}
	})
}

// P2.5: Bound.
func TestBound(t *testing.T) {
	for name, x := range map[string]struct {
		weights []int
		want    int
		e       api.Errno
	}{
		"example":                     {[]int{1000, 1000, 0, 1000, 0}, 3, api.OK},
		"halves":                      {[]int{500, 1000, 500, 500, 500}, 3, api.OK},
		"rounded up":                  {[]int{500, 1, 500, 0, 0}, 2, api.OK},
		"a thousandth":                {[]int{0, 0, 0, 0, 1}, 1, api.OK},
		"no weight":                   {make([]int, 5), 0, api.OK},
		"just 1000":                   {[]int{0, 1000, 0, 0, 0}, 1, api.OK},
		"two of a duty":               {[]int{1000, 0, 500, 0, 0}, 0, api.ErrFail},
		"a duty with 1001":            {[]int{500, 0, 501, 0, 0}, 0, api.ErrFail},
		"a segment with 1001":         {[]int{0, 1001, 0, 0, 0}, 0, api.ErrFail},
		"two that no duty has":        {[]int{1000, 1000, 0, 0, 0}, 2, api.OK},
		"the most":                    {[]int{1000000, 0, 0, 0, 0}, 0, api.ErrFail},
		"more than the most":          {[]int{1000001, 0, 0, 0, 0}, 0, api.ErrRange},
		"the last one below 0":        {[]int{0, 0, 0, 0, -1}, 0, api.ErrRange},
		"a weight too few":            {[]int{0, 0, 0, 0}, 0, api.ErrRange},
		"a weight too many":           {[]int{0, 0, 0, 0, 0, 0}, 0, api.ErrRange},
		"nothing":                     {nil, 0, api.ErrRange},
		"great numbers":               {[]int{math.MaxInt, math.MaxInt, math.MinInt, 0, 0}, 0, api.ErrRange},
		"not fair, and not described": {[]int{1000, 0, 1000, 0, -1}, 0, api.ErrRange},
	} {
		if n, e := duty.Bound(example(), x.weights); n != x.want || e != x.e {
			t.Errorf("%s: Bound: %d, %v", name, n, e)
		}
	}
	if n, e := duty.Bound(easyDay(), nil); n != 0 || e != api.OK {
		t.Errorf("Bound of no weights: %d, %v", n, e)
	}
}

// P2.5: what no legal duty has may have any weight.
func TestBoundOfBarred(t *testing.T) {
	x := exampleBy(func(l *duty.Law) { l.Piece = 109 })
	weights := []int{1000000, 1000000, 1000000, 1000000, 999999}
	if n, e := duty.Bound(x, weights); n != 5000 || e != api.OK {
		t.Errorf("Bound: %d, %v", n, e)
	}
}

func TestBoundByDefinition(t *testing.T) {
	fair := 0
	forRandomDays(t, func(t *testing.T, r *rand.Rand, x duty.Day) {
		for range 10 {
			weights := randomWeights(r, x)
			sum, isFair := 0, true
			for _, weight := range weights {
				sum += weight
			}
			for set := range pays(x) {
				isFair = isFair && weightOf(weights, set) <= 1000
			}
			want, e := (sum+999)/1000, api.OK
			if !isFair {
				want, e = 0, api.ErrFail
			} else {
				fair++
			}
			if n, is := duty.Bound(x, weights); n != want || is != e {
				t.Errorf("Bound of %v in %v: %d, %v; not %d, %v", weights, x, n, is, want, e)
			}
		}
	})
	if fair < 500 {
		t.Errorf("only %d weights were fair", fair)
	}
}

func randomWeights(r *rand.Rand, x duty.Day) []int {
	var weights []int
	for range segments(x) {
		weights = append(weights, []int{0, 200, 333, 334, 500, 500, 1000}[r.Intn(7)])
	}
	return weights
}

func weightOf(weights []int, set int) int {
	sum := 0
	for _, number := range listOf(set) {
		sum += weights[number]
	}
	return sum
}
