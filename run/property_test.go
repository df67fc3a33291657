package run_test

import (
	"math/rand"
	"slices"
	"testing"

	"layover/api"
	"layover/run"
)

// P1.8: with a shorter Layover, shorter Empty minutes or a lesser Most.
func TestEasier(t *testing.T) {
	forRandomTables(t, func(t *testing.T, r *rand.Rand, x run.Table) {
		easy := easier(r, x)
		before, now := mustFollow(t, x), mustFollow(t, easy)
		for first, list := range before {
			for _, second := range list {
				if !slices.Contains(now[first], second) {
					t.Errorf("%d follows %d in %v, not in %v", second, first, x, easy)
				}
			}
		}
		if len(mustCut(t, easy)) > len(mustCut(t, x)) {
			t.Errorf("%v needs more buses than %v", easy, x)
		}
	})
}

func easier(r *rand.Rand, x run.Table) run.Table {
	easy := cloneTable(x)
	easy.Layover = r.Intn(x.Layover + 1)
	for _, list := range easy.Empty {
		for to := range list {
			list[to] = r.Intn(list[to] + 1)
		}
	}
	for number, trip := range easy.Trips {
		easy.Trips[number].Most = trip.Least + r.Intn(trip.Most-trip.Least+1)
	}
	return easy
}

// P1.9: a trip more.
func TestTripMore(t *testing.T) {
	forRandomTables(t, func(t *testing.T, r *rand.Rand, x run.Table) {
		if len(x.Trips) == api.MaxRunTrips {
			return
		}
		more := cloneTable(x)
		more.Trips = append(more.Trips, randomTrip(r, x.Places, api.MaxRunKinds))
		before, now := len(mustCut(t, x)), len(mustCut(t, more))
		if now > before+1 {
			t.Errorf("%v needs %d buses, %v needs %d", x, before, more, now)
		}
		lists := mustFollow(t, more)
		last := len(x.Trips)
		mayFollow := slices.ContainsFunc(lists, func(list []int) bool { return slices.Contains(list, last) })
		if now < before && (len(lists[last]) == 0 || !mayFollow) {
			t.Errorf("%v needs %d buses, %v needs %d", x, before, more, now)
		}
	})
}

// P1.9: a bus may come by the new trip to where it could not go empty in time.
func TestTripMoreSparesBus(t *testing.T) {
	x := run.Table{Places: 2, Empty: [][]int{{0, 100}, {100, 0}}, Trips: []run.Trip{
		trip(0, 0, 0, 10, 10, 0), trip(1, 1, 30, 5, 5, 0),
	}}
	if blocks := mustCut(t, x); len(blocks) != 2 {
		t.Errorf("Cut: %v", blocks)
	}
	x.Trips = append(x.Trips, trip(0, 1, 10, 20, 20, 0))
	if blocks := mustCut(t, x); !sameLists(blocks, [][]int{{0, 2, 1}}) {
		t.Errorf("Cut with a trip more: %v", blocks)
	}
}

// P1.11: all trips start as many minutes later.
func TestLater(t *testing.T) {
	forRandomTables(t, func(t *testing.T, r *rand.Rand, x run.Table) {
		later := cloneTable(x)
		minutes := 1 + r.Intn(api.MaxRunDay-100)
		for number := range later.Trips {
			later.Trips[number].Start += minutes
		}
		if !sameLists(mustFollow(t, x), mustFollow(t, later)) || len(mustCut(t, x)) != len(mustCut(t, later)) {
			t.Errorf("%v is another one %d minutes later", x, minutes)
		}
	})
}

// P1.12: the fewest buses are the sum of those for the trips of each kind alone.
func TestKinds(t *testing.T) {
	forRandomTables(t, func(t *testing.T, r *rand.Rand, x run.Table) {
		sum := 0
		for kind := range api.MaxRunKinds {
			alone := without(x, listOf(all(x)&^ofKind(x, kind)))
			sum += len(mustCut(t, alone))
		}
		if len(mustCut(t, x)) != sum {
			t.Errorf("%v needs %d buses, its kinds %d", x, len(mustCut(t, x)), sum)
		}
	})
}
