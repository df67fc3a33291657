package run_test

import (
	"math"
	"math/rand"
	"slices"
	"testing"

	"layover/api"
	"layover/run"
)

// P1.2: Cut, with the numbers that are known.
func TestCut(t *testing.T) {
	for name, x := range map[string]struct {
		table run.Table
		want  int
	}{
		"example":      {example(), 3},
		"no trips":     {onePlace(), 0},
		"one trip":     {onePlace(trip(0, 0, 0, 1, 1, 0)), 1},
		"all at once":  {onePlace(sameStarts(12)...), 12},
		"all in a row": {onePlace(inRow(12)...), 1},
		"in a row, of two kinds": {
			onePlace(trip(0, 0, 0, 1, 1, 0), trip(0, 0, 5, 1, 1, 1), trip(0, 0, 10, 1, 1, 0), trip(0, 0, 15, 1, 1, 1)), 2,
		},
		// The trip 0 can be followed by 2 and 3, the trip 1 by 2 alone: 0 has to leave 2 to it.
		"a follower is left to another trip": {
			run.Table{Places: 2, Empty: [][]int{{0, 10}, {10, 0}}, Trips: []run.Trip{
				trip(0, 0, 0, 10, 10, 0), trip(0, 1, 0, 10, 10, 0), trip(0, 0, 20, 5, 5, 0), trip(0, 0, 10, 1, 15, 0),
			}}, 2,
		},
	} {
		if blocks := mustCut(t, x.table); len(blocks) != x.want || !isCutting(x.table, blocks) {
			t.Errorf("%s: %v", name, blocks)
		}
	}
}

func TestCutExample(t *testing.T) {
	blocks := mustCut(t, example())
	slices.SortFunc(blocks, slices.Compare[[]int])
	if !sameLists(blocks, [][]int{{0, 1, 3}, {2}, {4}}) {
		t.Errorf("Cut: %v", blocks)
	}
}

func sameStarts(many int) []run.Trip {
	var trips []run.Trip
	for number := range many {
		trips = append(trips, trip(0, 0, 50, 1+number, 20, 0))
	}
	return trips
}

func inRow(many int) []run.Trip {
	var trips []run.Trip
	for number := range many {
		trips = append(trips, trip(0, 0, 10*(many-number), 1, 10, 2))
	}
	return trips
}

// isCutting is the definition.
func isCutting(x run.Table, blocks [][]int) bool {
	var trips []int
	for _, block := range blocks {
		if len(block) == 0 {
			return false
		}
		for place, number := range block {
			if number < 0 || number >= len(x.Trips) || place > 0 && !follows(x, block[place-1], number) {
				return false
			}
		}
		trips = append(trips, block...)
	}
	slices.Sort(trips)
	return slices.Equal(trips, listOf(all(x)))
}

// P1.2: ProveCut.
func TestProveCut(t *testing.T) {
	for name, x := range map[string]struct {
		blocks [][]int
		want   bool
	}{
		"the fewest":               {[][]int{{0, 1, 3}, {2}, {4}}, true},
		"another order":            {[][]int{{4}, {2}, {0, 1, 3}}, true},
		"more than the fewest":     {[][]int{{0, 3}, {1}, {2}, {4}}, true},
		"each trip alone":          {[][]int{{0}, {1}, {2}, {3}, {4}}, true},
		"none":                     {nil, false},
		"a trip lacks":             {[][]int{{0, 1, 3}, {2}}, false},
		"a trip twice":             {[][]int{{0, 1}, {1, 3}, {2}, {4}}, false},
		"a trip twice in a block":  {[][]int{{0, 0, 1, 3}, {2}, {4}}, false},
		"a whole block twice":      {[][]int{{0, 1, 3}, {2}, {4}, {4}}, false},
		"a trip that can't follow": {[][]int{{0, 2}, {1, 3}, {4}}, false},
		"backwards":                {[][]int{{3, 1, 0}, {2}, {4}}, false},
		"not the one before it":    {[][]int{{0, 3, 1}, {2}, {4}}, false},
		"another kind":             {[][]int{{0, 1, 3, 4}, {2}}, false},
		"an empty block":           {[][]int{{0, 1, 3}, {2}, {4}, {}}, false},
		"a nil block":              {[][]int{nil, {0, 1, 3}, {2}, {4}}, false},
		"a number too great":       {[][]int{{0, 1, 3}, {2}, {4}, {5}}, false},
		"5 for 4":                  {[][]int{{0, 1, 3}, {2}, {5}}, false},
		"below 0":                  {[][]int{{0, 1, 3}, {2}, {-1}}, false},
		"far too great":            {[][]int{{0, 1, 3}, {2}, {math.MaxInt}}, false},
		"far below 0":              {[][]int{{0, math.MinInt}, {2}, {4}}, false},
	} {
		if run.ProveCut(example(), x.blocks) != x.want {
			t.Errorf("%s: %v", name, !x.want)
		}
	}
	if !run.ProveCut(onePlace(), nil) || !run.ProveCut(onePlace(), [][]int{}) {
		t.Error("no blocks are a cutting of no trips")
	}
	if run.ProveCut(onePlace(), [][]int{{}}) || run.ProveCut(onePlace(), [][]int{{0}}) {
		t.Error("a block is no cutting of no trips")
	}
}

func TestProveCutByDefinition(t *testing.T) {
	forRandomTables(t, func(t *testing.T, r *rand.Rand, x run.Table) {
		for range 20 {
			blocks := randomBlocks(r, x)
			if run.ProveCut(x, blocks) != isCutting(x, blocks) {
				t.Errorf("ProveCut of %v, %v: %v", x, blocks, !isCutting(x, blocks))
			}
		}
	})
}

// randomBlocks takes the blocks of Cut, and mostly spoils them.
func randomBlocks(r *rand.Rand, x run.Table) [][]int {
	blocks, _ := run.Cut(x)
	if len(blocks) == 0 {
		return blocks
	}
	number := r.Intn(len(blocks))
	block := blocks[number]
	switch r.Intn(5) {
	case 0: // still a cutting
		blocks = append(blocks[:number:number], append([][]int{block[:1]}, blocks[number+1:]...)...)
		if len(block) > 1 {
			blocks = append(blocks, block[1:])
		}
	case 1:
		slices.Reverse(block)
	case 2:
		block[r.Intn(len(block))] = r.Intn(len(x.Trips)+2) - 1
	case 3: // the ends of two blocks change places
		other := r.Intn(len(blocks))
		a, b := r.Intn(len(block)), r.Intn(len(blocks[other]))
		block[a], blocks[other][b] = blocks[other][b], block[a]
	}
	return blocks
}

// P1.2, P1.7, P4: no cutting has fewer blocks, by trying all of them.
func TestCutIsFewest(t *testing.T) {
	forRandomTables(t, func(t *testing.T, r *rand.Rand, x run.Table) {
		blocks := mustCut(t, x)
		if len(blocks) != fewest(x, all(x)) || !isCutting(x, blocks) || !run.ProveCut(x, blocks) {
			t.Errorf("Cut of %v: %v, not %d", x, blocks, fewest(x, all(x)))
		}
	})
}

// P1.3: Cover.
func TestCover(t *testing.T) {
	for name, x := range map[string]struct {
		table run.Table
		want  int
	}{
		"example":      {example(), 3},
		"no trips":     {onePlace(), 0},
		"one trip":     {onePlace(trip(0, 0, 0, 1, 1, 0)), 1},
		"all at once":  {onePlace(sameStarts(12)...), 12},
		"all in a row": {onePlace(inRow(12)...), 1},
	} {
		ahead, behind, e := run.Cover(x.table)
		if e != api.OK || !proves(x.table, ahead, behind, x.want) || proves(x.table, ahead, behind, x.want+1) {
			t.Errorf("%s: %v, %v, %v", name, ahead, behind, e)
		}
	}
}

// proves is the definition of a cover that proves a number of buses.
func proves(x run.Table, ahead, behind []int, buses int) bool {
	if !isRising(x, ahead) || !isRising(x, behind) {
		return false
	}
	for first := range x.Trips {
		for second := range x.Trips {
			if follows(x, first, second) && !slices.Contains(ahead, first) && !slices.Contains(behind, second) {
				return false
			}
		}
	}
	return buses+len(ahead)+len(behind) <= len(x.Trips)
}

func isRising(x run.Table, list []int) bool {
	for place, number := range list {
		if number < 0 || number >= len(x.Trips) || place > 0 && number <= list[place-1] {
			return false
		}
	}
	return true
}

// P1.3: ProveCover.
func TestProveCover(t *testing.T) {
	for name, x := range map[string]struct {
		ahead, behind []int
		buses         int
		want          bool
	}{
		"ahead":                       {[]int{0, 1}, nil, 3, true},
		"behind":                      {nil, []int{1, 3}, 3, true},
		"both":                        {[]int{0}, []int{3}, 3, true},
		"a nil list or an empty one":  {[]int{0, 1}, []int{}, 3, true},
		"fewer buses":                 {[]int{0}, []int{3}, 2, true},
		"no buses":                    {[]int{0}, []int{3}, 0, true},
		"below 0":                     {[]int{0}, []int{3}, -1, true},
		"far below 0":                 {[]int{0}, []int{3}, math.MinInt, true},
		"more buses":                  {[]int{0}, []int{3}, 4, false},
		"far more buses":              {[]int{0}, []int{3}, math.MaxInt, false},
		"a trip too many":             {[]int{0, 1}, []int{4}, 2, true},
		"a trip too many, 3 buses":    {[]int{0, 1}, []int{4}, 3, false},
		"a trip in both":              {[]int{0, 1}, []int{1}, 2, true},
		"all trips twice":             {[]int{0, 1, 2, 3, 4}, []int{0, 1, 2, 3, 4}, -5, true},
		"all trips twice, above":      {[]int{0, 1, 2, 3, 4}, []int{0, 1, 2, 3, 4}, -4, false},
		"a pair that is not covered":  {[]int{0}, nil, 3, false},
		"none is covered":             {nil, nil, 0, false},
		"ahead for behind":            {[]int{3}, []int{0}, 3, false},
		"not the pair of 1 and 3":     {[]int{0}, []int{1}, 3, false},
		"ahead is falling":            {[]int{1, 0}, nil, 3, false},
		"behind is falling":           {nil, []int{3, 1}, 3, false},
		"ahead has one twice":         {[]int{0, 0, 1}, nil, 1, false},
		"behind has one twice":        {nil, []int{1, 3, 3}, 1, false},
		"ahead has no trip":           {[]int{0, 1, 5}, nil, 1, false},
		"behind has no trip":          {nil, []int{1, 3, 5}, 1, false},
		"ahead is below 0":            {[]int{-1, 0, 1}, nil, 1, false},
		"behind is below 0":           {nil, []int{-1, 1, 3}, 1, false},
		"ahead is far too great":      {[]int{0, 1, math.MaxInt}, nil, 1, false},
		"behind is far below 0":       {nil, []int{math.MinInt, 1, 3}, 1, false},
		"no trip, and few buses":      {[]int{0, 1, 5}, nil, -99, false},
		"not covered, and few buses":  {nil, nil, -99, false},
		"ahead falls at the end":      {[]int{0, 1, 0}, nil, -99, false},
		"behind is long and not good": {nil, []int{0, 1, 2, 3, 4, 0, 1, 2, 3, 4, 0, 1, 2, 3}, -99, false},
	} {
		if run.ProveCover(example(), x.ahead, x.behind, x.buses) != x.want {
			t.Errorf("%s: %v", name, !x.want)
		}
	}
	if !run.ProveCover(onePlace(), nil, nil, 0) || run.ProveCover(onePlace(), nil, nil, 1) {
		t.Error("no trips need no buses")
	}
}

func TestProveCoverByDefinition(t *testing.T) {
	forRandomTables(t, func(t *testing.T, r *rand.Rand, x run.Table) {
		for range 20 {
			ahead, behind := randomCover(r, x)
			least := len(x.Trips) - len(ahead) - len(behind)
			for buses := least - 1; buses <= least+1; buses++ {
				if want := proves(x, ahead, behind, buses); run.ProveCover(x, ahead, behind, buses) != want {
					t.Errorf("ProveCover of %v, %v, %v, %d: %v", x, ahead, behind, buses, !want)
				}
			}
		}
	})
}

// randomCover takes the cover of Cover, and mostly spoils it.
func randomCover(r *rand.Rand, x run.Table) (ahead, behind []int) {
	ahead, behind, _ = run.Cover(x)
	for range r.Intn(3) {
		list := &ahead
		if r.Intn(2) == 0 {
			list = &behind
		}
		switch place := r.Intn(len(*list) + 1); {
		case r.Intn(3) == 0 || place == len(*list):
			*list = slices.Insert(*list, place, r.Intn(len(x.Trips)+1))
		case r.Intn(2) == 0:
			*list = slices.Delete(*list, place, place+1)
		default:
			(*list)[place] = r.Intn(len(x.Trips) + 1)
		}
	}
	return ahead, behind
}

// P1.3, P1.7, P4: the cover proves just as many buses as Cut has blocks, and no
// cover proves more, by trying all of them.
func TestCoverProvesFewest(t *testing.T) {
	forRandomTables(t, func(t *testing.T, r *rand.Rand, x run.Table) {
		ahead, behind, e := run.Cover(x)
		buses := len(mustCut(t, x))
		if e != api.OK || !proves(x, ahead, behind, buses) || !run.ProveCover(x, ahead, behind, buses) {
			t.Errorf("Cover of %v: %v, %v, %v", x, ahead, behind, e)
		}
		if run.ProveCover(x, ahead, behind, buses+1) {
			t.Errorf("Cover of %v proves %d buses", x, buses+1)
		}
	})
}

func TestNoCoverProvesMore(t *testing.T) {
	r := rand.New(rand.NewSource(3))
	for number := range 30 {
		x := randomTable(r, number%6, 1)
		buses := len(mustCut(t, x))
		for ahead := range all(x) + 1 {
			for behind := range all(x) + 1 {
				if run.ProveCover(x, listOf(ahead), listOf(behind), buses+1) {
					t.Fatalf("%v, %v proves %d buses for %v", listOf(ahead), listOf(behind), buses+1, x)
				}
			}
		}
	}
}
