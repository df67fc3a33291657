package duty_test

import (
	"math"
	"math/rand"
	"testing"

	"layover/api"
	"layover/duty"
)

// P2.1: CheckDay, the least and the greatest of each number, and what is beyond it.
func TestCheckDay(t *testing.T) {
	for name, x := range map[string]struct {
		change func(x *duty.Day)
		want   api.Errno
	}{
		"example":                 {func(x *duty.Day) {}, api.OK},
		"nothing":                 {func(x *duty.Day) { *x = duty.Day{} }, api.ErrArg},
		"no blocks":               {func(x *duty.Day) { x.Blocks = nil }, api.OK},
		"6 blocks":                {func(x *duty.Day) { x.Blocks = blocks(6, 2) }, api.OK},
		"7 blocks":                {func(x *duty.Day) { x.Blocks = blocks(7, 2) }, api.ErrLimit},
		"7 empty blocks":          {func(x *duty.Day) { x.Blocks = blocks(7, 0) }, api.ErrLimit},
		"1000 blocks":             {func(x *duty.Day) { x.Blocks = blocks(1000, 2) }, api.ErrLimit},
		"a block of 10 segments":  {func(x *duty.Day) { x.Blocks = blocks(1, 11) }, api.OK},
		"a block of 11 segments":  {func(x *duty.Day) { x.Blocks = blocks(1, 12) }, api.ErrLimit},
		"blocks of 10 segments":   {func(x *duty.Day) { x.Blocks = blocks(5, 3) }, api.OK},
		"blocks of 12 segments":   {func(x *duty.Day) { x.Blocks = blocks(6, 3) }, api.ErrLimit},
		"an empty block":          {func(x *duty.Day) { x.Blocks[1] = nil }, api.ErrArg},
		"a block of one relief":   {func(x *duty.Day) { x.Blocks[1] = x.Blocks[1][:1] }, api.ErrArg},
		"a block of two reliefs":  {func(x *duty.Day) { x.Blocks[1] = x.Blocks[1][:2] }, api.OK},
		"empty blocks, segments":  {func(x *duty.Day) { x.Blocks = append(blocks(1, 11), nil, nil, nil) }, api.ErrArg},
		"empty blocks, too many":  {func(x *duty.Day) { x.Blocks = append(blocks(1, 12), nil, nil, nil) }, api.ErrLimit},
		"no places":               {func(x *duty.Day) { x.Walk = nil }, api.ErrArg},
		"no places, no blocks":    {func(x *duty.Day) { x.Walk, x.Blocks = nil, nil }, api.ErrArg},
		"1 place, no blocks":      {func(x *duty.Day) { x.Walk, x.Blocks = square(1), nil }, api.OK},
		"1 place for 2":           {func(x *duty.Day) { x.Walk = square(1) }, api.ErrArg},
		"5 places":                {func(x *duty.Day) { x.Walk = square(5) }, api.OK},
		"6 places":                {func(x *duty.Day) { x.Walk = square(6) }, api.ErrLimit},
		"a nil list":              {func(x *duty.Day) { x.Walk[1] = nil }, api.ErrArg},
		"a short list":            {func(x *duty.Day) { x.Walk[0] = []int{0} }, api.ErrArg},
		"a long list":             {func(x *duty.Day) { x.Walk[0] = []int{0, 5, 5} }, api.ErrArg},
		"a list of 6 places":      {func(x *duty.Day) { x.Walk[0] = []int{0, 5, 5, 5, 5, 5} }, api.ErrArg},
		"walk 0":                  {func(x *duty.Day) { x.Walk[1][0] = 0 }, api.OK},
		"walk 3000":               {func(x *duty.Day) { x.Walk[1][0] = 3000 }, api.OK},
		"walk 3001":               {func(x *duty.Day) { x.Walk[1][0] = 3001 }, api.ErrArg},
		"walk below 0":            {func(x *duty.Day) { x.Walk[0][1] = -1 }, api.ErrArg},
		"0 to itself":             {func(x *duty.Day) { x.Walk[0][0] = 1 }, api.ErrArg},
		"1 to itself":             {func(x *duty.Day) { x.Walk[1][1] = 1 }, api.ErrArg},
		"place 1":                 {func(x *duty.Day) { x.Blocks[1][2].Place = 1 }, api.OK},
		"place 2":                 {func(x *duty.Day) { x.Blocks[1][2].Place = 2 }, api.ErrArg},
		"place below 0":           {func(x *duty.Day) { x.Blocks[0][0].Place = -1 }, api.ErrArg},
		"at 0":                    {func(x *duty.Day) { x.Blocks[0][0] = at(0, 0, 0) }, api.OK},
		"at below 0":              {func(x *duty.Day) { x.Blocks[0][0] = at(-1, 0, 0) }, api.ErrArg},
		"both below 0":            {func(x *duty.Day) { x.Blocks[0][0] = at(-2, -1, 0) }, api.ErrArg},
		"at 3000":                 {func(x *duty.Day) { x.Blocks[0][3] = at(3000, 3000, 0) }, api.OK},
		"at 3001":                 {func(x *duty.Day) { x.Blocks[0][3] = at(3000, 3001, 0) }, api.ErrArg},
		"both 3001":               {func(x *duty.Day) { x.Blocks[0][3] = at(3001, 3001, 0) }, api.ErrArg},
		"a range backwards":       {func(x *duty.Day) { x.Blocks[0][1] = at(431, 430, 1) }, api.ErrArg},
		"a range of one":          {func(x *duty.Day) { x.Blocks[0][1] = at(430, 430, 1) }, api.OK},
		"Lo as before":            {func(x *duty.Day) { x.Blocks[0][1].At.Lo = 300 }, api.OK},
		"Lo less than before":     {func(x *duty.Day) { x.Blocks[0][1].At.Lo = 299 }, api.ErrArg},
		"Hi as before":            {func(x *duty.Day) { x.Blocks[0][1].At.Hi = 550 }, api.OK},
		"Hi more than behind":     {func(x *duty.Day) { x.Blocks[0][1].At.Hi = 551 }, api.ErrArg},
		"Hi of the last one":      {func(x *duty.Day) { x.Blocks[1][2].At = duty.Range{Lo: 505, Hi: 509} }, api.ErrArg},
		"the last relief":         {func(x *duty.Day) { x.Blocks[1][2].At = duty.Range{Lo: 499, Hi: 620} }, api.ErrArg},
		"a block before":          {func(x *duty.Day) { x.Blocks[1] = exact(0, 1) }, api.OK},
		"great numbers":           {func(x *duty.Day) { x.Blocks[0][3] = at(math.MinInt, math.MaxInt, math.MaxInt) }, api.ErrArg},
		"7 blocks, not valid":     {func(x *duty.Day) { *x = duty.Day{Blocks: blocks(7, 0)} }, api.ErrLimit},
		"6 places, not valid":     {func(x *duty.Day) { *x = duty.Day{Walk: make([][]int, 6), Blocks: blocks(1, 1)} }, api.ErrLimit},
		"11 segments, not valid":  {func(x *duty.Day) { *x = duty.Day{Blocks: [][]duty.Relief{make([]duty.Relief, 12)}} }, api.ErrLimit},
		"6 lists, none is square": {func(x *duty.Day) { x.Walk = make([][]int, 6) }, api.ErrLimit},
	} {
		day := example()
		x.change(&day)
		if e := duty.CheckDay(day); e != x.want {
			t.Errorf("%s: CheckDay: %v, not %v", name, e, x.want)
		}
		checkErrors(t, name, day, x.want)
	}
}

// P2.1: CheckDay, each number of the law.
func TestCheckLaw(t *testing.T) {
	fields := map[string]func(l *duty.Law) *int{
		"Piece":  func(l *duty.Law) *int { return &l.Piece },
		"Drive":  func(l *duty.Law) *int { return &l.Drive },
		"Spread": func(l *duty.Law) *int { return &l.Spread },
		"Break":  func(l *duty.Law) *int { return &l.Break },
		"On":     func(l *duty.Law) *int { return &l.On },
		"Off":    func(l *duty.Law) *int { return &l.Off },
		"Least":  func(l *duty.Law) *int { return &l.Least },
		"Pieces": func(l *duty.Law) *int { return &l.Pieces },
	}
	for name, field := range fields {
		least, most := 0, 3000
		switch name {
		case "Break":
			least = 1
		case "Pieces":
			least, most = 1, 3
		}
		for number, want := range map[int]api.Errno{
			least: api.OK, most: api.OK, least - 1: api.ErrArg, most + 1: api.ErrArg, math.MinInt: api.ErrArg, math.MaxInt: api.ErrArg,
		} {
			x := exampleBy(func(l *duty.Law) { *field(l) = number })
			if e := duty.CheckDay(x); e != want {
				t.Errorf("%s %d: %v, not %v", name, number, e, want)
			}
			checkErrors(t, name, x, want)
		}
	}
}

// checkErrors: each call has the error of the day, before its own one, and
// nothing beside it (R1, R2).
func checkErrors(t *testing.T, name string, x duty.Day, want api.Errno) {
	t.Helper()
	if want == api.OK {
		return
	}
	for _, list := range [][]int{nil, {0}, {-1}, {0, 2}} {
		if is, e := duty.Legal(x, list); e != want || is {
			t.Errorf("%s: Legal: %v, %v", name, is, e)
		}
		if n, e := duty.Pay(x, list); e != want || n != 0 {
			t.Errorf("%s: Pay: %d, %v", name, n, e)
		}
		if w, e := duty.Do(x, list, [][]int{{300, 425, 540, 660}, {400, 505, 610}}); e != want || !sameWork(w, duty.Work{}) {
			t.Errorf("%s: Do: %v, %v", name, w, e)
		}
		if n, e := duty.Bound(x, list); e != want || n != 0 {
			t.Errorf("%s: Bound: %d, %v", name, n, e)
		}
	}
	if p, n, e := duty.Best(x); e != want || p != nil || n != 0 {
		t.Errorf("%s: Best: %v, %d, %v", name, p, n, e)
	}
	if l, e := duty.Barred(x); e != want || l != nil {
		t.Errorf("%s: Barred: %v, %v", name, l, e)
	}
	for _, plan := range [][][]int{nil, {{0, 2}, {1}, {3, 4}}, {{0}}} {
		if duty.ProvePlan(x, plan) {
			t.Errorf("%s: ProvePlan of %v", name, plan)
		}
	}
}

func blocks(many, reliefs int) [][]duty.Relief {
	var list [][]duty.Relief
	for range many {
		list = append(list, make([]duty.Relief, reliefs))
	}
	return list
}

func square(places int) [][]int {
	var walk [][]int
	for range places {
		walk = append(walk, make([]int, places))
	}
	return walk
}

// P2.1: Legal and Pay; a pay of 0 is for a duty that is not legal.
func TestLegal(t *testing.T) {
	walks := easyDay([]duty.Relief{at(0, 0, 0), at(10, 10, 1)}, []duty.Relief{at(20, 20, 0), at(30, 30, 0)})
	walks.Walk = [][]int{{0, 99}, {7, 0}}
	for name, x := range map[string]struct {
		day  duty.Day
		duty []int
		pay  int
	}{
		"one segment":                    {example(), []int{0}, 300},
		"a piece that may last 250":      {example(), []int{0, 1}, 0},
		"two pieces":                     {example(), []int{0, 2}, 390},
		"a piece of two segments":        {example(), []int{3, 4}, 300},
		"pieces of two blocks":           {example(), []int{0, 4}, 340},
		"no break between blocks":        {example(), []int{1, 4}, 0},
		"a block at the time of another": {example(), []int{0, 3}, 0},
		"three pieces":                   {example(), []int{0, 2, 4}, 0},
		"all":                            {example(), []int{0, 1, 2, 3, 4}, 0},

		"Piece 250":            {exampleBy(func(l *duty.Law) { l.Piece = 250 }), []int{0, 1}, 300},
		"Piece 249":            {exampleBy(func(l *duty.Law) { l.Piece = 249 }), []int{0, 1}, 0},
		"Drive 270":            {exampleBy(func(l *duty.Law) { l.Drive = 270 }), []int{0, 2}, 390},
		"Drive 269":            {exampleBy(func(l *duty.Law) { l.Drive = 269 }), []int{0, 2}, 0},
		"Break 95 and walk 5":  {exampleBy(func(l *duty.Law) { l.Break = 95 }), []int{0, 2}, 390},
		"Break 96 and walk 5":  {exampleBy(func(l *duty.Law) { l.Break = 96 }), []int{0, 2}, 0},
		"Spread 390":           {exampleBy(func(l *duty.Law) { l.Spread = 390 }), []int{0, 2}, 390},
		"Spread 389":           {exampleBy(func(l *duty.Law) { l.Spread = 389 }), []int{0, 2}, 0},
		"On 11":                {exampleBy(func(l *duty.Law) { l.On = 11 }), []int{0, 2}, 391},
		"Off 11":               {exampleBy(func(l *duty.Law) { l.Off = 11 }), []int{0, 2}, 391},
		"Pieces 1, two of it":  {exampleBy(func(l *duty.Law) { l.Pieces = 1 }), []int{0, 2}, 0},
		"Pieces 1, one of it":  {exampleBy(func(l *duty.Law) { l.Pieces = 1 }), []int{3, 4}, 300},
		"Least 390":            {exampleBy(func(l *duty.Law) { l.Least = 390 }), []int{0, 2}, 390},
		"Least 391":            {exampleBy(func(l *duty.Law) { l.Least = 391 }), []int{0, 2}, 391},
		"Least above Spread":   {exampleBy(func(l *duty.Law) { l.Least = 3000 }), []int{0, 2}, 3000},
		"Least 0, one segment": {exampleBy(func(l *duty.Law) { l.Least = 0 }), []int{0}, 150},

		"walk from the piece's end to the next one's beginning": {walks, []int{0, 1}, 30},
		// The driver's pieces are in the order of their times, not of their numbers.
		"the second block is first": {easyDay(exact(50, 60), exact(10, 20)), []int{0, 1}, 50},
		"three pieces of Pieces 3":  {easyDay(exact(10, 20, 30, 40), exact(50, 60)), []int{0, 2, 3}, 50},
		"four pieces of Pieces 3":   {easyDay(exact(10, 20, 30, 40, 50, 60, 70)), []int{0, 2, 4}, 50},
		"no time for a break":       {easyDay(exact(10, 20, 20, 30)), []int{0, 2}, 0},
		"a break that may be none":  {easyDay([]duty.Relief{at(10, 10, 0), at(20, 25, 0), at(20, 25, 0), at(30, 30, 0)}), []int{0, 2}, 0},
		"a break of one minute":     {easyDay([]duty.Relief{at(10, 10, 0), at(20, 24, 0), at(25, 25, 0), at(30, 30, 0)}), []int{0, 2}, 20},
		// The same place and time are not the same relief, if they are of two blocks.
		"a block that begins where another ends": {easyDay(exact(10, 20), exact(20, 30)), []int{0, 1}, 0},
		"reliefs that are equal":                 {leastOne(easyDay(exact(10, 10, 10, 10))), []int{0, 1, 2}, 1},
		"equal reliefs, with a gap":              {leastOne(easyDay(exact(10, 10, 10, 10))), []int{0, 2}, 0},
	} {
		legal, e := duty.Legal(x.day, x.duty)
		if legal != (x.pay > 0) || e != api.OK {
			t.Errorf("%s: Legal: %v, %v", name, legal, e)
		}
		want := api.OK
		if x.pay == 0 {
			want = api.ErrLaw
		}
		if pay, e := duty.Pay(x.day, x.duty); pay != x.pay || e != want {
			t.Errorf("%s: Pay: %d, %v", name, pay, e)
		}
	}
}

// leastOne lets a duty of no time be paid 1, so that its pay is told from none.
func leastOne(x duty.Day) duty.Day {
	x.Law.Least = 1
	return x
}

func TestFourPieces(t *testing.T) {
	x := easyDay(exact(10, 20, 30, 40, 50, 60, 70, 80))
	if mustLegal(t, x, []int{0, 2, 4, 6}) || !mustLegal(t, x, []int{0, 2, 4}) || !mustLegal(t, x, []int{0, 1, 2, 4, 6}) {
		t.Error("Legal does not count pieces")
	}
}

// Example 2 of the document.
func TestLongestPiece(t *testing.T) {
	for piece, want := range map[int]bool{240: false, 249: false, 250: true} {
		x := easyDay([]duty.Relief{at(300, 300, 0), at(530, 550, 0)})
		x.Law.Piece = piece
		if mustLegal(t, x, []int{0}) != want {
			t.Errorf("Piece %d: Legal: %v", piece, !want)
		}
	}
}

// P2.1, P2: Legal and Pay are what they are in all truths.
func TestLegalByDefinition(t *testing.T) {
	legals, others := 0, 0
	forRandomDays(t, func(t *testing.T, r *rand.Rand, x duty.Day) {
		for list := range duties(x) {
			legal, pay := inAll(x, list)
			if mustLegal(t, x, list) != legal {
				t.Errorf("Legal of %v in %v: %v", list, x, !legal)
			}
			want := api.OK
			if legal {
				legals++
			} else {
				others++
				pay, want = 0, api.ErrLaw
			}
			if n, e := duty.Pay(x, list); n != pay || e != want {
				t.Errorf("Pay of %v in %v: %d, %v; not %d", list, x, n, e, pay)
			}
		}
	})
	if legals < 500 || others < 500 {
		t.Errorf("%d duties were legal, %d not", legals, others)
	}
}

// R1: what is no duty.
func TestNoDuty(t *testing.T) {
	for _, list := range [][]int{
		nil, {}, {-1}, {5}, {0, 5}, {-1, 0}, {1, 0}, {1, 1}, {0, 2, 2}, {0, 1, 2, 3, 4, 5}, {0, 3, 1}, {math.MinInt}, {math.MaxInt}, make([]int, 1000),
	} {
		x := example()
		if is, e := duty.Legal(x, list); is || e != api.ErrRange {
			t.Errorf("Legal of %v: %v, %v", list, is, e)
		}
		if n, e := duty.Pay(x, list); n != 0 || e != api.ErrRange {
			t.Errorf("Pay of %v: %d, %v", list, n, e)
		}
		if w, e := duty.Do(x, list, [][]int{{300, 425, 540, 660}, {400, 505, 610}}); !sameWork(w, duty.Work{}) || e != api.ErrRange {
			t.Errorf("Do of %v: %v, %v", list, w, e)
		}
		x.Blocks = nil
		if is, e := duty.Legal(x, list); is || e != api.ErrRange {
			t.Errorf("Legal of %v, without blocks: %v, %v", list, is, e)
		}
	}
}
