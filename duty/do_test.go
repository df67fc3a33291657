package duty_test

import (
	"math"
	"math/rand"
	"testing"

	"layover/api"
	"layover/duty"
)

// P2.2: Do.
func TestDo(t *testing.T) {
	times := [][]int{{300, 425, 540, 660}, {400, 505, 610}}
	// The piece with the lesser Lo is the first one, also if it begins later.
	wide := easyDay([]duty.Relief{at(0, 100, 0), at(5, 110, 0)}, exact(10, 20))
	wide.Law.On, wide.Law.Off = 3, 4
	same := easyDay(exact(10, 20), exact(10, 15))
	for name, x := range map[string]struct {
		day   duty.Day
		duty  []int
		times [][]int
		want  duty.Work
	}{
		"example":                 {example(), []int{0, 2}, times, duty.Work{Drive: 245, Spread: 380, Breaks: []int{115}, Legal: true}},
		"legal in this truth":     {example(), []int{0, 1}, times, duty.Work{Drive: 240, Spread: 260, Legal: true}},
		"not a minute later":      {example(), []int{0, 1}, [][]int{{300, 425, 541, 660}, {400, 505, 610}}, duty.Work{Drive: 241, Spread: 261}},
		"a break below 0":         {example(), []int{2, 4}, times, duty.Work{Drive: 225, Spread: 175, Breaks: []int{-70}}},
		"three pieces":            {example(), []int{0, 2, 4}, times, duty.Work{Drive: 350, Spread: 380, Breaks: []int{80, -70}}},
		"one segment":             {example(), []int{3}, times, duty.Work{Drive: 105, Spread: 125, Legal: true}},
		"a piece of two segments": {example(), []int{3, 4}, times, duty.Work{Drive: 210, Spread: 230, Legal: true}},
		"all of it":               {example(), []int{0, 1, 2, 3, 4}, times, duty.Work{Drive: 570, Spread: 330, Breaks: []int{-260}}},
		"the second block first":  {easyDay(exact(50, 60), exact(10, 20)), []int{0, 1}, [][]int{{50, 60}, {10, 20}}, duty.Work{Drive: 20, Spread: 50, Breaks: []int{30}, Legal: true}},
		"the order of the ranges": {wide, []int{0, 1}, [][]int{{90, 105}, {10, 20}}, duty.Work{Drive: 25, Spread: 7 - 70, Breaks: []int{-95}}},
		"the same Lo":             {same, []int{0, 1}, [][]int{{10, 20}, {10, 15}}, duty.Work{Drive: 15, Spread: 5, Breaks: []int{-10}}},
		"no time at all":          {wide, []int{0}, [][]int{{50, 50}, {10, 20}}, duty.Work{Spread: 7, Legal: true}},
	} {
		if w, e := duty.Do(x.day, x.duty, x.times); !sameWork(w, x.want) || e != api.OK {
			t.Errorf("%s: Do: %v, %v; not %v", name, w, e, x.want)
		}
	}
}

// P2.2: each number of the law, at its least or most in the truth, and beyond it.
func TestDoByLaw(t *testing.T) {
	times := [][]int{{300, 425, 540, 660}, {400, 505, 610}}
	for name, x := range map[string]struct {
		change func(l *duty.Law)
		want   bool
	}{
		"Piece 125":  {func(l *duty.Law) { l.Piece = 125 }, true},
		"Piece 124":  {func(l *duty.Law) { l.Piece = 124 }, false},
		"Drive 245":  {func(l *duty.Law) { l.Drive = 245 }, true},
		"Drive 244":  {func(l *duty.Law) { l.Drive = 244 }, false},
		"Spread 380": {func(l *duty.Law) { l.Spread = 380 }, true},
		"Spread 379": {func(l *duty.Law) { l.Spread = 379 }, false},
		"Break 110":  {func(l *duty.Law) { l.Break = 110 }, true},
		"Break 111":  {func(l *duty.Law) { l.Break = 111 }, false},
		"Pieces 1":   {func(l *duty.Law) { l.Pieces = 1 }, false},
		"Least 3000": {func(l *duty.Law) { l.Least = 3000 }, true},
	} {
		if w := mustDo(t, exampleBy(x.change), []int{0, 2}, times); w.Legal != x.want {
			t.Errorf("%s: %v", name, w)
		}
	}
}

func TestDoByDefinition(t *testing.T) {
	forRandomDays(t, func(t *testing.T, r *rand.Rand, x duty.Day) {
		for times := range truths(x) {
			list := anyDuty(r, x)
			if list == nil {
				return
			}
			if w, want := mustDo(t, x, list, times), workIn(x, list, times); !sameWork(w, want) {
				t.Errorf("Do of %v at %v in %v: %v, not %v", list, times, x, w, want)
			}
		}
	})
}

// P2.2: times that are no truth.
func TestNoTruth(t *testing.T) {
	for name, times := range map[string][][]int{
		"nothing":          nil,
		"a block too few":  {{300, 425, 540, 660}},
		"a block too many": {{300, 425, 540, 660}, {400, 505, 610}, {}},
		"a time too few":   {{300, 425, 540}, {400, 505, 610}},
		"a time too many":  {{300, 425, 540, 660, 660}, {400, 505, 610}},
		"no times":         {{300, 425, 540, 660}, nil},
		"too early":        {{300, 419, 540, 660}, {400, 505, 610}},
		"too late":         {{300, 431, 540, 660}, {400, 505, 610}},
		"the first one":    {{301, 425, 540, 660}, {400, 505, 610}},
		"the last one":     {{300, 425, 540, 660}, {400, 505, 599}},
		"great numbers":    {{300, 425, 540, math.MaxInt}, {400, 505, math.MinInt}},
	} {
		for _, list := range [][]int{{0}, {0, 1}, {4}} {
			if w, e := duty.Do(example(), list, times); !sameWork(w, duty.Work{}) || e != api.ErrRange {
				t.Errorf("%s: Do of %v: %v, %v", name, list, w, e)
			}
		}
	}
	for _, times := range [][][]int{{{300, 420, 530, 650}, {400, 500, 600}}, {{300, 430, 550, 670}, {400, 510, 620}}} {
		mustDo(t, example(), []int{0}, times)
	}
}

// P2.2: ranges may meet, but times do not go back.
func TestTimesGoBack(t *testing.T) {
	x := easyDay([]duty.Relief{at(0, 90, 0), at(10, 100, 0), at(20, 100, 0)})
	for _, c := range []struct {
		times []int
		want  api.Errno
	}{
		{[]int{50, 50, 50}, api.OK}, {[]int{50, 49, 50}, api.ErrRange}, {[]int{50, 60, 59}, api.ErrRange}, {[]int{90, 100, 100}, api.OK},
	} {
		if w, e := duty.Do(x, []int{0}, [][]int{c.times}); e != c.want {
			t.Errorf("Do at %v: %v, %v", c.times, w, e)
		}
	}
}
