package roster_test

import (
	"math/rand"
	"slices"
	"testing"

	"layover/roster"
)

// P3.6, P2, P3: a legal roster breaks nothing in any truth; one that is not legal
// breaks something in the truth of all latest ends.
func TestWheneverDutiesEnd(t *testing.T) {
	forSomeRosters(t, func(t *testing.T, r *rand.Rand, x roster.Week, list []int) {
		checkTruths(t, x, list)
	})
	apart := 0
	forRandomWeeks(t, func(t *testing.T, r *rand.Rand, x roster.Week) {
		list, _ := mustMost(t, x)
		apart += checkTruths(t, justBroken(r, x, list), list)
	})
	if apart < 500 {
		t.Errorf("only %d truths break nothing of what is not legal", apart)
	}
}

// justBroken is a week whose law is as easy as it can be, if it can, with the
// roster not legal.
func justBroken(r *rand.Rand, x roster.Week, list []int) roster.Week {
	x = cloneWeek(x)
	if r.Intn(2) == 0 {
		for mustLegal(x, list) && x.Rest < 3000 {
			x.Rest++
		}
		return x
	}
	for number := range x.Drivers {
		x.Drivers[number].Used = 0
	}
	for mustLegal(x, list) && x.Hours > 0 {
		x.Hours--
	}
	return x
}

// checkTruths returns how many truths break nothing, although the roster is not legal.
func checkTruths(t *testing.T, x roster.Week, list []int) int {
	t.Helper()
	legal, apart := mustLegal(x, list), 0
	if late := mustBreaks(t, x, list, latest(x)); legal != (len(late) == 0) {
		t.Errorf("%v in %v is legal: %v, but breaks %v", list, x, legal, late)
	}
	for truth := range truths(x) {
		found := mustBreaks(t, x, list, truth)
		if legal && len(found) > 0 {
			t.Errorf("%v in %v is legal, but breaks %v at %v", list, x, found, truth)
		}
		if !legal && len(found) == 0 {
			apart++
		}
	}
	return apart
}

// P3.6: whatever is broken is broken with later ends, too.
func TestLaterEnds(t *testing.T) {
	forSomeRosters(t, func(t *testing.T, r *rand.Rand, x roster.Week, list []int) {
		soon, late := anyTruth(r, x), anyTruth(r, x)
		for number := range soon {
			soon[number], late[number] = min(soon[number], late[number]), max(soon[number], late[number])
		}
		with := mustBreaks(t, x, list, late)
		for _, b := range mustBreaks(t, x, list, soon) {
			if !slices.Contains(with, b) {
				t.Errorf("%v in %v breaks %v at %v, not at %v", list, x, b, soon, late)
			}
		}
	})
}

// P3.9: a duty of a legal roster becomes Nobody's.
func TestOneLess(t *testing.T) {
	fewer := 0
	forRandomWeeks(t, func(t *testing.T, r *rand.Rand, x roster.Week) {
		for list := range rosters(x) {
			if r.Intn(10) > 0 || !mustLegal(x, list) {
				continue
			}
			for number := range list {
				less := slices.Clone(list)
				less[number] = roster.Nobody
				fewer++
				if !mustLegal(x, less) {
					t.Errorf("%v is legal in %v, %v is not", list, x, less)
				}
			}
		}
	})
	if fewer < 1000 {
		t.Errorf("only %d rosters", fewer)
	}
}

// P3.11: an easier law, and easier drivers.
func TestEasier(t *testing.T) {
	forRandomWeeks(t, func(t *testing.T, r *rand.Rand, x roster.Week) {
		easy := easier(r, x)
		for list := range rosters(x) {
			if mustLegal(x, list) && !mustLegal(easy, list) {
				t.Errorf("%v is legal in %v, not in %v", list, x, easy)
			}
		}
		_, before := mustMost(t, x)
		if _, now := mustMost(t, easy); now < before {
			t.Errorf("Most of %v: %d; of %v: %d", x, before, easy, now)
		}
		list := anyRoster(r, x)
		for number := range list {
			now := mustSpares(t, easy, list, number)
			for _, driver := range mustSpares(t, x, list, number) {
				if !slices.Contains(now, driver) {
					t.Errorf("%d can step in for %d of %v in %v, not in %v", driver, number, list, x, easy)
				}
			}
		}
	})
}

// easier changes one thing or more.
func easier(r *rand.Rand, x roster.Week) roster.Week {
	easy := cloneWeek(x)
	changes := r.Perm(8)[:1+r.Intn(3)]
	if slices.Contains(changes, 0) {
		easy.Rest = r.Intn(x.Rest + 1)
	}
	if slices.Contains(changes, 1) {
		easy.Run++
	}
	if slices.Contains(changes, 2) {
		easy.Hours += r.Intn(400)
	}
	for number := range easy.Drivers {
		d := &easy.Drivers[number]
		if slices.Contains(changes, 3) && !slices.Contains(d.Knows, 1) {
			d.Knows = append(d.Knows, 1)
			slices.Sort(d.Knows)
		}
		if slices.Contains(changes, 4) && len(d.Leave) > 0 {
			d.Leave = d.Leave[1:]
		}
		if slices.Contains(changes, 5) {
			d.Off -= r.Intn(400)
		}
		if slices.Contains(changes, 6) {
			d.Row = r.Intn(d.Row + 1)
		}
		if slices.Contains(changes, 7) {
			d.Used = r.Intn(d.Used + 1)
		}
	}
	return easy
}

// P3.12: duties on later days do not change what is broken with those of the first
// days, but Long.
func TestDaysToCome(t *testing.T) {
	first := func(list []roster.Breach) []roster.Breach {
		return slices.DeleteFunc(list, func(b roster.Breach) bool { return b.Kind == roster.Long })
	}
	some := 0
	forSomeRosters(t, func(t *testing.T, r *rand.Rand, x roster.Week, list []int) {
		truth := anyTruth(r, x)
		all := first(mustBreaks(t, x, list, truth))
		for days := range x.Days + 1 {
			less := cloneWeek(x)
			less.Duties = nil
			var whose, ends []int
			var want []roster.Breach
			for number, d := range x.Duties {
				if d.Day >= days {
					continue
				}
				for _, b := range all {
					if b.Duty == number {
						want = append(want, breach(b.Kind, b.Driver, len(whose)))
					}
				}
				less.Duties = append(less.Duties, d)
				whose, ends = append(whose, list[number]), append(ends, truth[number])
			}
			found := first(mustBreaks(t, less, whose, ends))
			some += len(found)
			if len(found) != len(want) || slices.ContainsFunc(want, func(b roster.Breach) bool { return !slices.Contains(found, b) }) {
				t.Errorf("%v in %v: %v before the day %d, not %v", list, x, found, days, want)
			}
		}
	})
	if some < 500 {
		t.Errorf("only %d were broken", some)
	}
}

// P3.13: duties in another order.
func TestOrder(t *testing.T) {
	forRandomWeeks(t, func(t *testing.T, r *rand.Rand, x roster.Week) {
		order := r.Perm(len(x.Duties))
		other := cloneWeek(x)
		for place, number := range order {
			other.Duties[place] = x.Duties[number]
		}
		changed := make([]int, len(order))
		for list := range rosters(x) {
			for place, number := range order {
				changed[place] = list[number]
			}
			if mustLegal(x, list) != mustLegal(other, changed) {
				t.Errorf("%v in %v is legal: %v; %v in %v is not so", list, x, mustLegal(x, list), changed, other)
			}
		}
		_, before := mustMost(t, x)
		_, now := mustMost(t, other)
		_, grants, ok := mustBest(t, x)
		_, others, still := mustBest(t, other)
		if before != now || ok != still || !slices.Equal(grants, others) {
			t.Errorf("%v: %d, %v; %v: %d, %v", x, before, grants, other, now, others)
		}
	})
}
