package duty

// shift is the work of a duty as the law looks at it: with the minutes that each
// piece lasts, and those of each break without the walk.
type shift struct {
	Work
	lasts, rests []int
}

// question is one of those that the law asks of a duty.
type question struct {
	allows func(l Law, s shift) bool
}

func questionsOfLaw() []question {
	return []question{
		{Law.allowsPieces}, {Law.allowsEachPiece}, {Law.allowsDrive}, {Law.allowsBreaks}, {Law.allowsSpread},
	}
}

func (l Law) allowsPieces(s shift) bool { return len(s.lasts) <= l.Pieces }

func (l Law) allowsEachPiece(s shift) bool { return greatest(s.lasts...) <= l.Piece }

func (l Law) allowsDrive(s shift) bool { return s.Drive <= l.Drive }

func (l Law) allowsBreaks(s shift) bool {
	return every(s.rests, func(minutes int) bool { return minutes >= l.Break })
}

func (l Law) allowsSpread(s shift) bool { return s.Spread <= l.Spread }

// work is the most that a duty drives and is spread, with the shortest breaks; in
// one truth it is what the duty is there. If all breaks are above 0, some truth
// has all of this at once. If one is not, perhaps none has; but the duty is not
// legal then, for in some truth there is no time for that break.
func (p planned) work(duty set) Work {
	s := p.shift(duty)
	s.Legal = every(p.questions, func(q question) bool { return q.allows(p.Law, s) })
	return s.Work
}

func (p planned) shift(duty set) shift {
	var s shift
	var first, last piece
	for next := range p.pieces(duty) {
		if last == (piece{}) {
			first = next
		} else {
			rest := p.minute(next.begin, earliest) - p.minute(last.end, latest)
			s.Breaks = append(s.Breaks, rest)
			s.rests = append(s.rests, rest-p.walk(last.end, next.begin))
		}
		lasts := p.lasts(next.begin, next.end)
		s.Drive += lasts
		s.lasts = append(s.lasts, lasts)
		last = next
	}
	s.Spread = p.Law.On + p.lasts(first.begin, last.end) + p.Law.Off
	return s
}

// lasts is how many minutes there are at most from one relief to another one.
func (p planned) lasts(begin, end spot) int {
	return p.minute(end, latest) - p.minute(begin, earliest)
}

func (p planned) walk(from, to spot) int {
	return p.Walk[p.relief(from).Place][p.relief(to).Place]
}

func (p planned) isLegal(duty set) bool { return p.work(duty).Legal }

// pay is that of a legal duty.
func (p planned) pay(duty set) int { return greatest(p.work(duty).Spread, p.Law.Least) }

// greatest is 0 of no minutes.
func greatest(minutes ...int) int {
	most := 0
	for _, number := range minutes {
		most = max(most, number)
	}
	return most
}
