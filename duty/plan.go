package duty

// all has all segments of the day.
func (p planned) all() set { return setOf(len(p.segments)) - 1 }

// dutiesThat are all duties that pass a test.
func (p planned) dutiesThat(passes func(duty set) bool) []set {
	var duties []set
	for duty := set(1); duty <= p.all(); duty++ {
		if passes(duty) {
			duties = append(duties, duty)
		}
	}
	return duties
}

func (p planned) legalDuties() []set { return p.dutiesThat(p.isLegal) }

// choice is the duty to take first, if some segments are left to be planned, and
// how many duties and how much pay there are for all of them.
type choice struct {
	first       set
	duties, pay int
	possible    bool
}

func (c choice) isBetter(other choice) bool {
	switch {
	case !c.possible || !other.possible:
		return c.possible
	case c.duties != other.duties:
		return c.duties < other.duties
	}
	return c.pay < other.pay
}

// best returns a best plan and its pay, if there is one. The first segment that
// is left is in some duty, so only the duties with it are tried.
func (p planned) best() ([][]int, int, bool) {
	pays := map[set]int{}
	beginning := map[set][]set{}
	for _, duty := range p.legalDuties() {
		pays[duty] = p.pay(duty)
		beginning[duty.lowest()] = append(beginning[duty.lowest()], duty)
	}
	known := map[set]choice{0: {possible: true}}
	var choose func(left set) choice
	choose = func(left set) choice {
		if found, ok := known[left]; ok {
			return found
		}
		var best choice
		for _, duty := range beginning[left.lowest()] {
			if duty&^left != 0 {
				continue
			}
			rest := choose(left &^ duty)
			next := choice{duty, rest.duties + 1, rest.pay + pays[duty], rest.possible}
			if next.isBetter(best) {
				best = next
			}
		}
		known[left] = best
		return best
	}
	whole := choose(p.all())
	return plan(p.all(), known), whole.pay, whole.possible
}

// plan has the duties that were chosen for the segments.
func plan(segments set, chosen map[set]choice) [][]int {
	duties := [][]int{}
	for left := segments; chosen[left].first != 0; left &^= chosen[left].first {
		duties = append(duties, chosen[left].first.list())
	}
	return duties
}

// isPlan reports whether each list is a legal duty, and each segment is in just
// one of them.
func (p planned) isPlan(plan [][]int) bool {
	left := p.all()
	right := every(plan, func(list []int) bool {
		duty, ok := p.segmentsOf(list)
		ok = ok && duty&^left == 0 && p.isLegal(duty)
		left &^= duty
		return ok
	})
	return right && left == 0
}

func (p planned) barred() set {
	left := p.all()
	for _, duty := range p.legalDuties() {
		left &^= duty
	}
	return left
}

// fullWeight is the most that the weights of a legal duty may be together.
const fullWeight = 1000

func (p planned) isFair(weights []int) bool {
	return every(p.legalDuties(), func(duty set) bool {
		sum := 0
		for _, segment := range duty.list() {
			sum += weights[segment]
		}
		return sum <= fullWeight
	})
}

// bound is the sum of fair weights in duties, rounded up.
func bound(weights []int) int {
	sum := 0
	for _, weight := range weights {
		sum += weight
	}
	return (sum + fullWeight - 1) / fullWeight
}
