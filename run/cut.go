package run

import (
	"layover/api"
)

// none stands for the number of a trip where there is no trip.
const none = -1

// chosen tells of each trip whether it is looked at.
type chosen [api.MaxRunTrips]bool

// leaders has for each trip the one that it follows, or none.
type leaders [api.MaxRunTrips]int

func (s service) allTrips() chosen {
	var all chosen
	for trip := range s.Trips {
		all[trip] = true
	}
	return all
}

// join lets as many of the trips that are looked at follow another one of them
// as can: each of them spares a bus.
func (s service) join(looked chosen) leaders {
	var led leaders
	for trip := range led {
		led[trip] = none
	}
	var asked chosen
	var give func(trip int) bool
	// A follower that is taken is still given, if its leader finds another one.
	give = func(trip int) bool {
		found := none
	search:
		for _, next := range s.followers[trip] {
			switch {
			case !looked[next] || asked[next]:
				continue search
			case led[next] == none:
				found = next
				break search
			}
			asked[next] = true
			if give(led[next]) {
				found = next
				break search
			}
		}
		if found != none {
			led[found] = trip
		}
		return found != none
	}
	for trip := range s.Trips {
		asked = chosen{}
		if looked[trip] {
			give(trip)
		}
	}
	return led
}

// turned has for each trip the one that follows it, or none.
func (led leaders) turned() [api.MaxRunTrips]int {
	var next [api.MaxRunTrips]int
	for trip := range next {
		next[trip] = none
	}
	for trip, leader := range led {
		if leader != none {
			next[leader] = trip
		}
	}
	return next
}

func (s service) blocks(led leaders) [][]int {
	blocks := [][]int{}
	next := led.turned()
	for first := range s.Trips {
		if led[first] != none {
			continue
		}
		block := []int{}
		for trip := first; trip != none; trip = next[trip] {
			block = append(block, trip)
		}
		blocks = append(blocks, block)
	}
	return blocks
}

// cover returns a cover with as many elements as trips are led, so that it
// proves the number of blocks. A trip is free if it leads none, or if the one
// that it leads could be led by a free one instead. All that may follow a free
// trip are behind; those that are not free are ahead, and cover the rest.
func (s service) cover(led leaders) (ahead, behind []int) {
	var free, wanted chosen
	var visit func(trip int)
	visit = func(trip int) {
		free[trip] = true
		for _, next := range s.followers[trip] {
			if wanted[next] {
				continue
			}
			wanted[next] = true
			// It has a leader: else a free trip could lead it, and one more would be led.
			if !free[led[next]] {
				visit(led[next])
			}
		}
	}
	next := led.turned()
	for trip := range s.Trips {
		if next[trip] == none && !free[trip] {
			visit(trip)
		}
	}
	for trip := range s.Trips {
		if !free[trip] {
			ahead = append(ahead, trip)
		}
		if wanted[trip] {
			behind = append(behind, trip)
		}
	}
	return ahead, behind
}
