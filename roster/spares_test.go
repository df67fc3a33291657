package roster_test

import (
	"math/rand"
	"slices"
	"testing"

	"layover/roster"
)

// P3.5: Spares of the example.
func TestSparesExample(t *testing.T) {
	for _, x := range []struct {
		list   []int
		number int
		want   []int
	}{
		{[]int{0, 2, 1, 0}, 0, []int{0}}, {[]int{0, 2, 1, 0}, 1, []int{2}}, {[]int{0, 2, 1, 0}, 2, []int{1}}, {[]int{0, 2, 1, 0}, 3, []int{0, 1, 2}},
		{[]int{0, 2, -1, -1}, 2, []int{0, 1}}, {[]int{0, 2, -1, -1}, 3, []int{0, 1, 2}},
		// The roster is not legal but for the duty: whoever makes it legal can.
		{[]int{0, 0, 1, 1}, 1, []int{2}}, {[]int{0, 0, -1, -1}, 2, nil}, {[]int{0, 1, 1, 1}, 1, []int{2}}, {[]int{1, 1, 1, 1}, 0, nil},
		{[]int{-1, -1, -1, -1}, 0, []int{0}}, {[]int{-1, -1, -1, -1}, 1, []int{0, 2}},
	} {
		if l := mustSpares(t, example(), x.list, x.number); !slices.Equal(l, x.want) {
			t.Errorf("Spares of %v for %d: %v, not %v", x.list, x.number, l, x.want)
		}
	}
}

// P3.5: without drivers nobody can; all can, if they have nothing else.
func TestSparesOfAll(t *testing.T) {
	if l := mustSpares(t, easyWeek(0, noons(0)...), []int{-1}, 0); len(l) != 0 {
		t.Errorf("no drivers: %v", l)
	}
	x := easyWeek(6, noons(0, 1, 0)...)
	for _, first := range []int{-1, 0, 5} {
		if l := mustSpares(t, x, []int{first, -1, -1}, 0); !slices.Equal(l, upTo(5)) {
			t.Errorf("all drivers: %v", l)
		}
	}
	if l := mustSpares(t, x, []int{0, 0, 3}, 0); !slices.Equal(l, []int{0, 1, 2, 4, 5}) {
		t.Errorf("all but one: %v", l)
	}
}

// P3.5: another driver's breach lets nobody step in.
func TestSparesOfOthers(t *testing.T) {
	x := easyWeek(3, noons(0, 1, 1)...)
	if l := mustSpares(t, x, []int{-1, 0, 0}, 0); len(l) != 0 {
		t.Errorf("a driver has two on a day: %v", l)
	}
	if l := mustSpares(t, x, []int{-1, 0, 0}, 1); !slices.Equal(l, []int{1, 2}) {
		t.Errorf("the second one of two on a day: %v", l)
	}
}

// P3.5, P3.10: with a driver who can step in the roster is legal; with any other
// one it breaks something in the latest truth.
func TestSparesByDefinition(t *testing.T) {
	can, cannot, own := 0, 0, 0
	forSomeRosters(t, func(t *testing.T, r *rand.Rand, x roster.Week, list []int) {
		for number, has := range list {
			found := mustSpares(t, x, list, number)
			var want []int
			changed := slices.Clone(list)
			for driver := range x.Drivers {
				changed[number] = driver
				broken := mustBreaks(t, x, changed, latest(x))
				if !slices.Contains(found, driver) && len(broken) == 0 {
					t.Errorf("with %d for %d of %v in %v nothing is broken", driver, number, list, x)
				}
				if isLegal(x, changed) {
					want = append(want, driver)
				}
			}
			if !slices.Equal(found, want) {
				t.Errorf("Spares of %v for %d in %v: %v, not %v", list, number, x, found, want)
			}
			if has >= 0 && isLegal(x, list) {
				own++
				if !slices.Contains(found, has) {
					t.Errorf("Spares of %v for %d in %v: %v, without its driver", list, number, x, found)
				}
			}
			can += len(found)
			cannot += len(x.Drivers) - len(found)
		}
	})
	if can < 200 || cannot < 200 || own < 200 {
		t.Errorf("%d could, %d could not, %d had the duty", can, cannot, own)
	}
}
