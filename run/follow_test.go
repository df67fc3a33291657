package run_test

import (
	"math"
	"math/rand"
	"testing"

	"layover/api"
	"layover/run"
)

// P1.1: CheckTable, the least and the greatest of each number, and what is beyond it.
func TestCheckTable(t *testing.T) {
	for name, x := range map[string]struct {
		change func(x *run.Table)
		want   api.Errno
	}{
		"example":              {func(x *run.Table) {}, api.OK},
		"no trips":             {func(x *run.Table) { x.Trips = nil }, api.OK},
		"trips without a list": {func(x *run.Table) { x.Trips = []run.Trip{} }, api.OK},
		"12 trips":             {func(x *run.Table) { x.Trips = sameTrips(12) }, api.OK},
		"13 trips":             {func(x *run.Table) { x.Trips = sameTrips(13) }, api.ErrLimit},
		"1000 trips":           {func(x *run.Table) { x.Trips = sameTrips(1000) }, api.ErrLimit},
		"no places":            {func(x *run.Table) { *x = run.Table{} }, api.ErrArg},
		"no places, trips":     {func(x *run.Table) { x.Places, x.Empty = 0, nil }, api.ErrArg},
		"places below 0":       {func(x *run.Table) { *x = run.Table{Places: -1} }, api.ErrArg},
		"1 place":              {func(x *run.Table) { *x = onePlace() }, api.OK},
		"6 places":             {func(x *run.Table) { *x = manyPlaces(6) }, api.OK},
		"7 places":             {func(x *run.Table) { *x = manyPlaces(7) }, api.ErrArg},
		"layover 0":            {func(x *run.Table) { x.Layover = 0 }, api.OK},
		"layover 600":          {func(x *run.Table) { x.Layover = 600 }, api.OK},
		"layover 601":          {func(x *run.Table) { x.Layover = 601 }, api.ErrArg},
		"layover below 0":      {func(x *run.Table) { x.Layover = -1 }, api.ErrArg},
		"no lists":             {func(x *run.Table) { x.Empty = nil }, api.ErrArg},
		"a list too few":       {func(x *run.Table) { x.Empty = x.Empty[:1] }, api.ErrArg},
		"a list too many":      {func(x *run.Table) { x.Empty = append(x.Empty, []int{0, 0}) }, api.ErrArg},
		"a nil list":           {func(x *run.Table) { x.Empty[1] = nil }, api.ErrArg},
		"a short list":         {func(x *run.Table) { x.Empty[0] = []int{0} }, api.ErrArg},
		"a long list":          {func(x *run.Table) { x.Empty[0] = []int{0, 1, 1} }, api.ErrArg},
		"empty 0":              {func(x *run.Table) { x.Empty[1][0] = 0 }, api.OK},
		"empty 600":            {func(x *run.Table) { x.Empty[1][0] = 600 }, api.OK},
		"empty 601":            {func(x *run.Table) { x.Empty[1][0] = 601 }, api.ErrArg},
		"empty below 0":        {func(x *run.Table) { x.Empty[0][1] = -1 }, api.ErrArg},
		"0 to itself":          {func(x *run.Table) { x.Empty[0][0] = 1 }, api.ErrArg},
		"1 to itself":          {func(x *run.Table) { x.Empty[1][1] = 1 }, api.ErrArg},
		"from 1":               {func(x *run.Table) { x.Trips[4].From = 1 }, api.OK},
		"from 2":               {func(x *run.Table) { x.Trips[4].From = 2 }, api.ErrArg},
		"from below 0":         {func(x *run.Table) { x.Trips[4].From = -1 }, api.ErrArg},
		"to 1":                 {func(x *run.Table) { x.Trips[4].To = 1 }, api.OK},
		"to 2":                 {func(x *run.Table) { x.Trips[4].To = 2 }, api.ErrArg},
		"to below 0":           {func(x *run.Table) { x.Trips[0].To = -1 }, api.ErrArg},
		"start 0":              {func(x *run.Table) { x.Trips[0].Start = 0 }, api.OK},
		"start 2000":           {func(x *run.Table) { x.Trips[0].Start = 2000 }, api.OK},
		"start 2001":           {func(x *run.Table) { x.Trips[0].Start = 2001 }, api.ErrArg},
		"start below 0":        {func(x *run.Table) { x.Trips[0].Start = -1 }, api.ErrArg},
		"least 1":              {func(x *run.Table) { x.Trips[0].Least = 1 }, api.OK},
		"least 0":              {func(x *run.Table) { x.Trips[0].Least = 0 }, api.ErrArg},
		"least below 0":        {func(x *run.Table) { x.Trips[0].Least = -1 }, api.ErrArg},
		"least as most":        {func(x *run.Table) { x.Trips[0].Least = 60 }, api.OK},
		"least above most":     {func(x *run.Table) { x.Trips[0].Least = 61 }, api.ErrArg},
		"both 0":               {func(x *run.Table) { x.Trips[0].Least, x.Trips[0].Most = 0, 0 }, api.ErrArg},
		"both 1":               {func(x *run.Table) { x.Trips[0].Least, x.Trips[0].Most = 1, 1 }, api.OK},
		"both 600":             {func(x *run.Table) { x.Trips[0].Least, x.Trips[0].Most = 600, 600 }, api.OK},
		"both 601":             {func(x *run.Table) { x.Trips[0].Least, x.Trips[0].Most = 601, 601 }, api.ErrArg},
		"most 600":             {func(x *run.Table) { x.Trips[0].Most = 600 }, api.OK},
		"most 601":             {func(x *run.Table) { x.Trips[0].Most = 601 }, api.ErrArg},
		"kind 2":               {func(x *run.Table) { x.Trips[0].Kind = 2 }, api.OK},
		"kind 3":               {func(x *run.Table) { x.Trips[0].Kind = 3 }, api.ErrArg},
		"kind below 0":         {func(x *run.Table) { x.Trips[0].Kind = -1 }, api.ErrArg},
		"the last trip":        {func(x *run.Table) { x.Trips[4].Kind = 3 }, api.ErrArg},
		"great numbers":        {func(x *run.Table) { x.Trips[0].Start, x.Layover = math.MaxInt, math.MaxInt }, api.ErrArg},
		// R1: the number of trips is asked first.
		"13 trips that are not valid": {func(x *run.Table) { x.Trips = make([]run.Trip, 13) }, api.ErrLimit},
		"13 trips and no places":      {func(x *run.Table) { *x = run.Table{Trips: sameTrips(13)} }, api.ErrLimit},
	} {
		table := example()
		x.change(&table)
		if e := run.CheckTable(table); e != x.want {
			t.Errorf("%s: CheckTable: %v, not %v", name, e, x.want)
		}
		checkErrors(t, name, table, x.want)
	}
}

// checkErrors: each call has the error of the timetable, before its own one, and
// nothing beside it (R1, R2).
func checkErrors(t *testing.T, name string, x run.Table, want api.Errno) {
	t.Helper()
	if l, e := run.Follows(x); e != want || e != api.OK && l != nil {
		t.Errorf("%s: Follows: %v, %v", name, l, e)
	}
	if l, e := run.Cut(x); e != want || e != api.OK && l != nil {
		t.Errorf("%s: Cut: %v, %v", name, l, e)
	}
	if a, b, e := run.Cover(x); e != want || e != api.OK && (a != nil || b != nil) {
		t.Errorf("%s: Cover: %v, %v, %v", name, a, b, e)
	}
	if want == api.OK {
		return
	}
	for _, blocks := range [][][]int{nil, {{}}, {{0, 1, 3}, {2}, {4}}} {
		if l, e := run.Play(x, blocks, []int{40}); e != want || l != nil {
			t.Errorf("%s: Play: %v, %v", name, l, e)
		}
		if run.ProveCut(x, blocks) {
			t.Errorf("%s: ProveCut of %v", name, blocks)
		}
	}
	for _, fleet := range [][]int{nil, {-1, 0, 0}, {12, 12, 12}} {
		if l, e := run.Lacks(x, fleet); e != want || l != nil {
			t.Errorf("%s: Lacks: %v, %v", name, l, e)
		}
	}
	if run.ProveCover(x, nil, nil, 0) || run.ProveCover(x, []int{0, 1}, nil, -9) {
		t.Errorf("%s: ProveCover", name)
	}
}

func sameTrips(many int) []run.Trip {
	var trips []run.Trip
	for range many {
		trips = append(trips, trip(0, 1, 100, 10, 20, 0))
	}
	return trips
}

func manyPlaces(places int) run.Table {
	x := run.Table{Places: places}
	for range places {
		x.Empty = append(x.Empty, make([]int, places))
	}
	x.Trips = []run.Trip{trip(places-1, places-1, 0, 1, 1, 0)}
	return x
}

// P1.1: Follows.
func TestFollows(t *testing.T) {
	for name, x := range map[string]struct {
		table run.Table
		want  [][]int
	}{
		"example":  {example(), [][]int{{1, 3}, {3}, nil, nil, nil}},
		"no trips": {onePlace(), nil},
		"one trip": {onePlace(trip(0, 0, 0, 1, 1, 0)), [][]int{nil}},
		"just as it ends, and a minute earlier": {
			onePlace(trip(0, 0, 5, 10, 10, 0), trip(0, 0, 15, 1, 1, 0), trip(0, 0, 14, 1, 1, 0)),
			[][]int{{1}, nil, {1}},
		},
		"its most minutes count": {
			onePlace(trip(0, 0, 5, 1, 10, 0), trip(0, 0, 14, 1, 1, 0), trip(0, 0, 15, 1, 1, 0)),
			[][]int{{2}, {2}, nil},
		},
		"a day's trips backwards": {
			onePlace(trip(0, 0, 30, 1, 1, 0), trip(0, 0, 20, 1, 1, 0), trip(0, 0, 10, 1, 1, 0)),
			[][]int{nil, {0}, {0, 1}},
		},
		"equal trips": {
			onePlace(trip(0, 0, 30, 1, 1, 0), trip(0, 0, 30, 1, 1, 0)), [][]int{nil, nil},
		},
		"another kind": {
			onePlace(trip(0, 0, 0, 1, 1, 0), trip(0, 0, 9, 1, 1, 1), trip(0, 0, 19, 1, 1, 2), trip(0, 0, 29, 1, 1, 0), trip(0, 0, 39, 1, 1, 1)),
			[][]int{{3}, {4}, nil, nil, nil},
		},
		"empty from 0 to 1 takes 20, back 30": {
			run.Table{Places: 2, Empty: [][]int{{0, 20}, {30, 0}}, Trips: []run.Trip{
				trip(0, 0, 0, 10, 10, 0), trip(1, 1, 0, 10, 10, 0), trip(1, 0, 30, 1, 1, 0),
				trip(1, 0, 29, 1, 1, 0), trip(0, 0, 40, 1, 1, 0), trip(0, 0, 39, 1, 1, 0),
			}},
			[][]int{{2, 4, 5}, {2, 3, 4}, {4, 5}, {4, 5}, nil, {4}},
		},
	} {
		if l, e := run.Follows(x.table); !sameLists(l, x.want) || e != api.OK {
			t.Errorf("%s: %v, %v", name, l, e)
		}
	}
}

// Example 1 of the document.
func TestFollowsWithLayover(t *testing.T) {
	for start, want := range map[int]int{164: 0, 165: 1, 166: 1} {
		x := onePlace(trip(0, 0, 100, 40, 60, 0), trip(0, 0, start, 1, 1, 0))
		x.Layover = 5
		if l := mustFollow(t, x); len(l[0]) != want || len(l[1]) != 0 {
			t.Errorf("a trip at %d: %v", start, l)
		}
	}
}

func TestFollowsByDefinition(t *testing.T) {
	forRandomTables(t, func(t *testing.T, r *rand.Rand, x run.Table) {
		var want [][]int
		for first := range x.Trips {
			var list []int
			for second := range x.Trips {
				if follows(x, first, second) {
					list = append(list, second)
				}
			}
			want = append(want, list)
		}
		if l := mustFollow(t, x); !sameLists(l, want) {
			t.Errorf("Follows of %v: %v, not %v", x, l, want)
		}
	})
}
