package lane_test

import (
	"iter"
	"math/rand"
	"slices"
	"testing"

	"layover/api"
	"layover/lane"
)

func bus(low, high, turn int) lane.Bus { return lane.Bus{Lo: low, Hi: high, Turn: turn} }

// example is the yard of the chapter's examples.
func example() lane.Yard {
	return lane.Yard{
		Room:  []int{2, 2},
		Buses: []lane.Bus{bus(100, 120, 40), bus(110, 130, 20), bus(125, 140, 30), bus(150, 160, 10)},
	}
}

func exampleBy(change func(x *lane.Yard)) lane.Yard {
	x := example()
	change(&x)
	return x
}

// yard has Room for all buses in each of its lanes.
func yard(lanes, broken int, buses ...lane.Bus) lane.Yard {
	return lane.Yard{Room: repeated(8, lanes), Buses: buses, Broken: broken}
}

func repeated(number, times int) []int {
	var list []int
	for range times {
		list = append(list, number)
	}
	return list
}

func upTo(most int) []int {
	var list []int
	for number := range most + 1 {
		list = append(list, number)
	}
	return list
}

// anyMinute are buses of which any one may come first, with these turns.
func anyMinute(turns ...int) []lane.Bus {
	var buses []lane.Bus
	for _, turn := range turns {
		buses = append(buses, bus(0, 2000, turn))
	}
	return buses
}

// inOrder are buses that surely come in their order, with these turns.
func inOrder(turns ...int) []lane.Bus {
	var buses []lane.Bus
	for number, turn := range turns {
		buses = append(buses, bus(10*number, 10*number+9, turn))
	}
	return buses
}

func cloneYard(x lane.Yard) lane.Yard {
	x.Room, x.Buses = slices.Clone(x.Room), slices.Clone(x.Buses)
	return x
}

func sameYard(a, b lane.Yard) bool {
	return slices.Equal(a.Room, b.Room) && slices.Equal(a.Buses, b.Buses) && a.Broken == b.Broken
}

// lists yields all lists of so many numbers from 0 on, below a number; they share
// their memory.
func lists(length, below int) iter.Seq[[]int] {
	return func(yield func([]int) bool) {
		list := make([]int, length)
		var fill func(place int) bool
		fill = func(place int) bool {
			if place == length {
				return yield(list)
			}
			for number := range below {
				list[place] = number
				if !fill(place + 1) {
					return false
				}
			}
			return true
		}
		fill(0)
	}
}

// orders are all orders that are possible, by the definition.
func orders(x lane.Yard) [][]int {
	var found [][]int
	var add func(order []int)
	add = func(order []int) {
		if len(order) == len(x.Buses) {
			found = append(found, slices.Clone(order))
			return
		}
		for number := range x.Buses {
			if with := append(order, number); !slices.Contains(order, number) && pairsArePossible(x, with) {
				add(with)
			}
		}
	}
	add(nil)
	return found
}

func pairsArePossible(x lane.Yard, order []int) bool {
	for place, other := range order {
		for _, earlier := range order[:place] {
			if x.Buses[earlier].Lo > x.Buses[other].Hi {
				return false
			}
		}
	}
	return true
}

// downs are all lists of buses that may break down.
func downs(x lane.Yard) [][]int {
	found := [][]int{nil}
	for one := range x.Buses {
		if x.Broken > 0 {
			found = append(found, []int{one})
		}
		for two := range one {
			if x.Broken > 1 {
				found = append(found, []int{two, one})
			}
		}
	}
	return found
}

// areLanes reports whether a list has lanes for the buses.
func areLanes(x lane.Yard, lanes []int) bool {
	for number, room := range x.Room {
		buses := 0
		for _, other := range lanes {
			if other == number {
				buses++
			}
		}
		if buses > room {
			return false
		}
	}
	return true
}

// standsBefore is the definition: a bus stands before another one.
func standsBefore(lanes, order []int, one, other int) bool {
	return lanes[one] == lanes[other] && slices.Index(order, one) < slices.Index(order, other)
}

// shunts is the definition of the buses that are shunted.
func shunts(x lane.Yard, lanes, order, broken []int) []int {
	var found []int
	for one, b := range x.Buses {
		for other, o := range x.Buses {
			goesOutEarlier := !slices.Contains(broken, one) && b.Turn < o.Turn
			if standsBefore(lanes, order, one, other) && !slices.Contains(broken, other) && !goesOutEarlier {
				found = append(found, one)
				break
			}
		}
	}
	return found
}

// drive plays a morning: the buses stand in rows, and each one that goes out drives
// out of its row when those before it have been taken out of it.
func drive(x lane.Yard, lanes, order, broken []int) [][]int {
	rows := make([][]int, len(x.Room))
	for _, number := range order {
		rows[lanes[number]] = append(rows[lanes[number]], number)
	}
	var told [][]int
	for turn := range 2001 {
		out := slices.IndexFunc(x.Buses, func(b lane.Bus) bool { return b.Turn == turn })
		if out < 0 || slices.Contains(broken, out) {
			continue
		}
		row := rows[lanes[out]]
		if place := slices.Index(row, out); place < 0 {
			told = append(told, nil)
		} else {
			told = append(told, row[:place])
			rows[lanes[out]] = row[place+1:]
		}
	}
	return told
}

// worst is the definition of the worst number of lanes.
func worst(x lane.Yard, lanes []int) int {
	most := 0
	for _, order := range orders(x) {
		for _, broken := range downs(x) {
			most = max(most, len(shunts(x, lanes, order, broken)))
		}
	}
	return most
}

// best has the best lanes by the definition, if there are any.
func best(x lane.Yard) (lanes []int, many int) {
	many = -1
	for list := range lists(len(x.Buses), len(x.Room)) {
		if !areLanes(x, list) {
			continue
		}
		if number := worst(x, list); many < 0 || number < many {
			lanes, many = slices.Clone(list), number
		}
	}
	return lanes, many
}

// randomYard has buses that come in a short time, so that many may come in another
// order, and some at the same minute only.
func randomYard(r *rand.Rand, lanes, buses int) lane.Yard {
	x := lane.Yard{Broken: r.Intn(3)}
	for range lanes {
		x.Room = append(x.Room, r.Intn(min(8, buses+1)+1))
	}
	turns := r.Perm(12)
	for number := range buses {
		low := r.Intn(12)
		x.Buses = append(x.Buses, bus(low, low+r.Intn(7), turns[number]))
	}
	if r.Intn(4) > 0 {
		x.Room[r.Intn(lanes)] = buses
	}
	return x
}

// forRandomYards calls check for many yards, always the same ones.
func forRandomYards(t *testing.T, check func(t *testing.T, r *rand.Rand, x lane.Yard)) {
	t.Helper()
	r := rand.New(rand.NewSource(4))
	for number := range 300 {
		check(t, r, randomYard(r, 1+number%3, number%6))
		if t.Failed() {
			return
		}
	}
}

// night is a yard with what stands in it.
type night struct {
	yard                 lane.Yard
	lanes, order, broken []int
}

// forRandomNights calls check for many nights of yards with up to 8 buses, always
// the same ones.
func forRandomNights(t *testing.T, check func(t *testing.T, r *rand.Rand, n night)) {
	t.Helper()
	r := rand.New(rand.NewSource(14))
	for number := range 1200 {
		x := randomYard(r, 1+number%3, number%9)
		lanes, ok := anyLanes(r, x)
		if !ok {
			continue
		}
		check(t, r, night{x, lanes, anyOrder(r, x), anyBroken(r, x)})
		if t.Failed() {
			return
		}
	}
}

// anyLanes has lanes for the buses, if there is room.
func anyLanes(r *rand.Rand, x lane.Yard) ([]int, bool) {
	var places []int
	for number, room := range x.Room {
		places = append(places, repeated(number, room)...)
	}
	r.Shuffle(len(places), func(i, j int) { places[i], places[j] = places[j], places[i] })
	if len(places) < len(x.Buses) {
		return nil, false
	}
	return places[:len(x.Buses):len(x.Buses)], true
}

// anyOrder has the buses as they come at some minutes of their ranges.
func anyOrder(r *rand.Rand, x lane.Yard) []int {
	minutes := make([]int, len(x.Buses))
	for number, b := range x.Buses {
		minutes[number] = b.Lo + r.Intn(b.Hi-b.Lo+1)
	}
	order := r.Perm(len(x.Buses))
	slices.SortStableFunc(order, func(a, b int) int { return minutes[a] - minutes[b] })
	return order
}

func anyBroken(r *rand.Rand, x lane.Yard) []int {
	many := min(len(x.Buses), r.Intn(x.Broken+1))
	broken := r.Perm(len(x.Buses))[:many]
	slices.Sort(broken)
	return broken
}

func mustShunts(t *testing.T, n night) []int {
	t.Helper()
	found, e := lane.Shunts(n.yard, n.lanes, n.order, n.broken)
	if e != api.OK {
		t.Fatalf("Shunts of %v: %v", n, e)
	}
	return found
}

func mustMorning(t *testing.T, n night) [][]int {
	t.Helper()
	told, e := lane.Morning(n.yard, n.lanes, n.order, n.broken)
	if e != api.OK {
		t.Fatalf("Morning of %v: %v", n, e)
	}
	return told
}

func mustWorst(t *testing.T, x lane.Yard, lanes []int) (order, broken []int, many int) {
	t.Helper()
	order, broken, many, e := lane.Worst(x, lanes)
	if e != api.OK {
		t.Fatalf("Worst of %v, %v: %v", x, lanes, e)
	}
	return order, broken, many
}

// mustBest has no lanes if there are none.
func mustBest(t *testing.T, x lane.Yard) (lanes []int, many int, ok bool) {
	t.Helper()
	lanes, many, e := lane.Best(x)
	if e != api.OK && (e != api.ErrFail || lanes != nil || many != 0) {
		t.Fatalf("Best of %v: %v, %d, %v", x, lanes, many, e)
	}
	return lanes, many, e == api.OK
}
