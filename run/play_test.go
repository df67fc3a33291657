package run_test

import (
	"math"
	"math/rand"
	"slices"
	"testing"

	"layover/api"
	"layover/run"
)

// P1.4: Play.
func TestPlay(t *testing.T) {
	cutting := [][]int{{0, 1, 3}, {2}, {4}}
	times := []int{40, 20, 40, 30, 10}
	for name, x := range map[string]struct {
		blocks [][]int
		times  []int
		want   [][]int
		e      api.Errno
	}{
		"example":           {cutting, times, [][]int{{20, 10}, nil, nil}, api.OK},
		"the most minutes":  {cutting, []int{60, 30, 60, 30, 20}, [][]int{{0, 0}, nil, nil}, api.OK},
		"some in between":   {cutting, []int{47, 26, 60, 30, 20}, [][]int{{13, 4}, nil, nil}, api.OK},
		"in order":          {[][]int{{2}, {4}, {0, 1, 3}}, times, [][]int{nil, nil, {20, 10}}, api.OK},
		"it goes empty":     {[][]int{{0, 3}, {1}, {2}, {4}}, []int{55, 25, 40, 30, 10}, [][]int{{10}, nil, nil, nil}, api.OK},
		"each trip alone":   {[][]int{{4}, {3}, {2}, {1}, {0}}, times, [][]int{nil, nil, nil, nil, nil}, api.OK},
		"no cutting":        {[][]int{{0, 2}, {1, 3}, {4}}, times, nil, api.ErrRange},
		"a trip lacks":      {[][]int{{0, 1, 3}, {2}}, times, nil, api.ErrRange},
		"an empty block":    {[][]int{{0, 1, 3}, {2}, {4}, {}}, times, nil, api.ErrRange},
		"no blocks":         {nil, times, nil, api.ErrRange},
		"no such trip":      {[][]int{{0, 1, 3}, {2}, {4, 9}}, times, nil, api.ErrRange},
		"no times":          {cutting, nil, nil, api.ErrRange},
		"a time too few":    {cutting, times[:4], nil, api.ErrRange},
		"a time too many":   {cutting, append(slices.Clone(times), 10), nil, api.ErrRange},
		"below the least":   {cutting, []int{39, 20, 40, 30, 10}, nil, api.ErrRange},
		"above the most":    {cutting, []int{40, 20, 61, 30, 10}, nil, api.ErrRange},
		"the last is below": {cutting, []int{40, 20, 40, 30, 9}, nil, api.ErrRange},
		"the last is above": {cutting, []int{40, 20, 40, 30, 21}, nil, api.ErrRange},
		"far above":         {cutting, []int{math.MaxInt, 20, 40, 30, 10}, nil, api.ErrRange},
		"far below":         {cutting, []int{40, 20, 40, 30, math.MinInt}, nil, api.ErrRange},
	} {
		w, e := run.Play(example(), x.blocks, x.times)
		if !sameLists(w, x.want) || e != x.e || e != api.OK && w != nil {
			t.Errorf("%s: %v, %v", name, w, e)
		}
	}
	if w, e := run.Play(onePlace(), nil, nil); len(w) != 0 || e != api.OK {
		t.Errorf("no trips: %v, %v", w, e)
	}
}

// P1.4 and P1.6, P2, P3: by any cutting, in each truth, no bus waits less than 0
// minutes, and it waits as long as the definition says.
func TestNoBusIsLate(t *testing.T) {
	forRandomTables(t, func(t *testing.T, r *rand.Rand, x run.Table) {
		for range 5 {
			blocks := randomBlocks(r, x)
			truth := times(r, x)
			waits, e := run.Play(x, blocks, truth)
			if !isCutting(x, blocks) {
				if e != api.ErrRange || waits != nil {
					t.Errorf("Play of %v, %v: %v, %v", x, blocks, waits, e)
				}
				continue
			}
			if e != api.OK || len(waits) != len(blocks) {
				t.Fatalf("Play of %v, %v, %v: %v, %v", x, blocks, truth, waits, e)
			}
			for number, block := range blocks {
				checkWaits(t, x, block, truth, waits[number])
			}
		}
	})
}

func checkWaits(t *testing.T, x run.Table, block, truth, waits []int) {
	t.Helper()
	if len(waits) != len(block)-1 {
		t.Fatalf("waits of %v in %v: %v", block, x, waits)
	}
	for place, wait := range waits {
		a, b := x.Trips[block[place]], x.Trips[block[place+1]]
		ready := a.Start + truth[block[place]] + x.Layover + x.Empty[a.To][b.From]
		if wait != b.Start-ready || wait < 0 || a.Kind != b.Kind {
			t.Errorf("waits of %v in %v, %v: %v", block, x, truth, waits)
		}
	}
}

// P1.6: what is not said to follow would come too late, in some truth.
func TestWhatCannotFollowIsLate(t *testing.T) {
	forRandomTables(t, func(t *testing.T, r *rand.Rand, x run.Table) {
		lists, longest := mustFollow(t, x), mosts(x)
		for first, a := range x.Trips {
			for second, b := range x.Trips {
				ready := a.Start + longest[first] + x.Layover + x.Empty[a.To][b.From]
				if a.Kind == b.Kind && ready <= b.Start && !slices.Contains(lists[first], second) {
					t.Errorf("%d may follow %d in %v", second, first, x)
				}
			}
		}
	})
}
