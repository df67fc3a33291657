package run_test

import (
	"math/rand"
	"slices"
	"testing"

	"layover/api"
	"layover/run"
)

func trip(from, to, start, least, most, kind int) run.Trip {
	return run.Trip{From: from, To: to, Start: start, Least: least, Most: most, Kind: kind}
}

// example is the timetable of the chapter's examples.
func example() run.Table {
	return run.Table{
		Places:  2,
		Layover: 5,
		Empty:   [][]int{{0, 20}, {30, 0}},
		Trips: []run.Trip{
			trip(0, 1, 100, 40, 60, 0),
			trip(1, 0, 165, 20, 30, 0),
			trip(0, 1, 165, 40, 60, 0),
			trip(0, 1, 200, 30, 30, 0),
			trip(1, 0, 240, 10, 20, 1),
		},
	}
}

// onePlace is a timetable without layover whose trips stay at one place.
func onePlace(trips ...run.Trip) run.Table {
	return run.Table{Places: 1, Empty: [][]int{{0}}, Trips: trips}
}

func cloneLists(lists [][]int) [][]int {
	var c [][]int
	for _, list := range lists {
		c = append(c, slices.Clone(list))
	}
	return c
}

func cloneTable(t run.Table) run.Table {
	t.Empty = cloneLists(t.Empty)
	t.Trips = slices.Clone(t.Trips)
	return t
}

func sameTable(a, b run.Table) bool {
	return a.Places == b.Places && a.Layover == b.Layover &&
		sameLists(a.Empty, b.Empty) && slices.Equal(a.Trips, b.Trips)
}

func sameLists(a, b [][]int) bool { return slices.EqualFunc(a, b, slices.Equal[[]int]) }

// randomTable is a valid timetable with few minutes in it, so that many ends meet starts.
func randomTable(r *rand.Rand, trips, kinds int) run.Table {
	t := run.Table{Places: 1 + r.Intn(3), Layover: r.Intn(4)}
	for from := range t.Places {
		t.Empty = append(t.Empty, make([]int, t.Places))
		for to := range t.Places {
			if from != to {
				t.Empty[from][to] = r.Intn(20)
			}
		}
	}
	for range trips {
		t.Trips = append(t.Trips, randomTrip(r, t.Places, kinds))
	}
	return t
}

func randomTrip(r *rand.Rand, places, kinds int) run.Trip {
	least := 1 + r.Intn(8)
	return trip(r.Intn(places), r.Intn(places), r.Intn(50), least, least+r.Intn(5), r.Intn(kinds))
}

// forRandomTables calls check for many timetables, always the same ones.
func forRandomTables(t *testing.T, check func(t *testing.T, r *rand.Rand, x run.Table)) {
	t.Helper()
	r := rand.New(rand.NewSource(7))
	for number := range 400 {
		check(t, r, randomTable(r, number%(api.MaxRunTrips+1), 1+r.Intn(api.MaxRunKinds)))
		if t.Failed() {
			return
		}
	}
}

// follows is the definition, tried for each number of minutes that the first trip may take.
func follows(x run.Table, first, second int) bool {
	a, b := x.Trips[first], x.Trips[second]
	for minutes := a.Least; minutes <= a.Most; minutes++ {
		if a.Start+minutes+x.Layover+x.Empty[a.To][b.From] > b.Start {
			return false
		}
	}
	return first != second && a.Kind == b.Kind
}

// fewest is the least number of blocks of the trips of a set (a bit for each),
// found by trying for each trip, by their starts, each bus that could run it.
func fewest(x run.Table, set int) int {
	var order []int
	for number := range x.Trips {
		if set>>number&1 == 1 {
			order = append(order, number)
		}
	}
	slices.SortFunc(order, func(a, b int) int { return x.Trips[a].Start - x.Trips[b].Start })
	lasts := map[int]bool{0: true} // the sets of trips that are a bus's last one up to now
	for _, next := range order {
		after := map[int]bool{}
		for last := range lasts {
			after[last|1<<next] = true
			for number := range x.Trips {
				if last>>number&1 == 1 && follows(x, number, next) {
					after[last&^(1<<number)|1<<next] = true
				}
			}
		}
		lasts = after
	}
	least := len(order)
	for last := range lasts {
		least = min(least, ones(last))
	}
	return least
}

func ones(set int) int {
	n := 0
	for ; set > 0; set &= set - 1 {
		n++
	}
	return n
}

func all(x run.Table) int { return 1<<len(x.Trips) - 1 }

func ofKind(x run.Table, kind int) int {
	set := 0
	for number, trip := range x.Trips {
		if trip.Kind == kind {
			set |= 1 << number
		}
	}
	return set
}

// isEnough is the definition of a fleet that is enough for the trips of a set.
func isEnough(x run.Table, fleet []int, set int) bool {
	for kind, buses := range fleet {
		if fewest(x, set&ofKind(x, kind)) > buses {
			return false
		}
	}
	return true
}

// leftOut tries each set of trips.
func leftOut(x run.Table, fleet []int) []int {
	best := listOf(all(x))
	for out := range all(x) + 1 {
		list := listOf(out)
		if len(list) > len(best) || len(list) == len(best) && slices.Compare(list, best) >= 0 {
			continue
		}
		if isEnough(x, fleet, all(x)&^out) {
			best = list
		}
	}
	return best
}

func listOf(set int) []int {
	var list []int
	for number := range api.MaxRunTrips {
		if set>>number&1 == 1 {
			list = append(list, number)
		}
	}
	return list
}

func randomFleet(r *rand.Rand, most int) []int {
	return []int{r.Intn(most + 1), r.Intn(most + 1), r.Intn(most + 1)}
}

// times is a truth: each trip takes its Least, its Most, or something between them.
func times(r *rand.Rand, x run.Table) []int {
	var list []int
	for _, trip := range x.Trips {
		list = append(list, trip.Least+r.Intn(trip.Most-trip.Least+1))
	}
	return list
}

func mosts(x run.Table) []int {
	var list []int
	for _, trip := range x.Trips {
		list = append(list, trip.Most)
	}
	return list
}

func mustCut(t *testing.T, x run.Table) [][]int {
	t.Helper()
	blocks, e := run.Cut(x)
	if e != api.OK {
		t.Fatalf("Cut of %v: %v", x, e)
	}
	return blocks
}

func mustFollow(t *testing.T, x run.Table) [][]int {
	t.Helper()
	lists, e := run.Follows(x)
	if e != api.OK {
		t.Fatalf("Follows of %v: %v", x, e)
	}
	return lists
}

func mustLack(t *testing.T, x run.Table, fleet []int) []int {
	t.Helper()
	out, e := run.Lacks(x, fleet)
	if e != api.OK {
		t.Fatalf("Lacks of %v for %v: %v", x, fleet, e)
	}
	return out
}
