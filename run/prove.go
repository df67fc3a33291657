package run

func (s service) validNumber(trip int) bool { return within(trip, 0, len(s.Trips)-1) }

// isCutting reports whether the blocks have each trip once, and each trip of a
// block but the first one may follow the one before it.
func (s service) isCutting(blocks [][]int) bool {
	var done chosen
	for _, block := range blocks {
		if len(block) == 0 || !every(block, s.validNumber) {
			return false
		}
		for place, trip := range block {
			if done[trip] || place > 0 && !s.mayFollow(block[place-1], trip) {
				return false
			}
			done[trip] = true
		}
	}
	return done == s.allTrips()
}

// isCover reports whether both lists are rising lists of trips, and of each
// pair of trips that follow each other one is in its list.
func (s service) isCover(ahead, behind []int) bool {
	if !s.isRisingList(ahead) || !s.isRisingList(behind) {
		return false
	}
	before, after := choose(ahead), choose(behind)
	for first, second := range s.pairs() {
		if !before[first] && !after[second] {
			return false
		}
	}
	return true
}

func (s service) isRisingList(trips []int) bool {
	last := none
	return every(trips, func(trip int) bool {
		rising := trip > last
		last = trip
		return rising && s.validNumber(trip)
	})
}

func choose(trips []int) chosen {
	var picked chosen
	for _, trip := range trips {
		picked[trip] = true
	}
	return picked
}

// isTruth reports whether there is a number of minutes for each trip that it can take.
func (s service) isTruth(times []int) bool {
	if len(times) != len(s.Trips) {
		return false
	}
	for number, trip := range s.Trips {
		if !within(times[number], trip.Least, trip.Most) {
			return false
		}
	}
	return true
}

// waits returns how long the bus of a block waits before each trip but the first one.
func (s service) waits(block, times []int) []int {
	waits := []int{}
	for place, trip := range block[1:] {
		before := block[place]
		waits = append(waits, s.wait(s.Trips[before], s.Trips[trip], times[before]))
	}
	return waits
}
