package opt_test

import (
	"fmt"
	"math"
	"slices"
	"testing"

	"larderwick/api"
	"larderwick/clock"
	"larderwick/fifo"
	"larderwick/flush"
	"larderwick/lru"
	"larderwick/opt"
	"larderwick/plain"
	"larderwick/play"
)

// around gives n requests that go around so many pages.
func around(n, pages int) []int {
	reqs := make([]int, n)
	for i := range reqs {
		reqs[i] = i % pages
	}
	return reqs
}

// with gives a copy of a list in which one thing is another.
func with(list []int, at, thing int) []int {
	changed := slices.Clone(list)
	changed[at] = thing
	return changed
}

// marks writes what was told of each request: + if its page was there.
func marks(there []bool) string {
	text := make([]byte, len(there))
	for i, was := range there {
		text[i] = '-'
		if was {
			text[i] = '+'
		}
	}
	return string(text)
}

func TestRun(t *testing.T) {
	cases := []struct {
		name  string
		reqs  []int
		slots int
		there string
		out   []int
		held  []int
	}{
		{"nil, no requests", nil, 1, "", nil, nil},
		{"empty, no requests", []int{}, api.MaxSlots, "", nil, nil},
		{"one page", []int{5}, 1, "-", nil, []int{5}},
		{"one page again and again", []int{5, 5, 5}, 1, "-++", nil, []int{5}},
		{"page 0 is not there at first", []int{0, 0}, 3, "-+", nil, []int{0}},
		{"pages at both ends", []int{15, 0}, 2, "--", nil, []int{0, 15}},
		{"rising, not as they came", []int{9, 2, 7, 4}, 4, "----", nil, []int{2, 4, 7, 9}},
		{"slots are left", []int{9, 2, 9}, 8, "--+", nil, []int{2, 9}},
		{"just as many pages as slots", []int{7, 6, 5, 4, 3, 2, 1, 0, 7, 0}, 8, "--------++", nil, []int{0, 1, 2, 3, 4, 5, 6, 7}},
		{"full, and asked for what is there", []int{1, 2, 3, 3, 1, 2}, 3, "---+++", nil, []int{1, 2, 3}},
		{"one slot", []int{1, 2, 1, 1, 2}, 1, "---+-", []int{1, 2, 1}, []int{2}},
		{"who comes stays, though it is never asked for again", []int{1, 2, 1}, 1, "---", []int{1, 2}, []int{1}},
		{"the one that is not asked for any more goes, the least", []int{1, 2, 3, 2}, 2, "---+", []int{1}, []int{2, 3}},
		{"the one that is not asked for any more goes, the greatest", []int{1, 2, 3, 1}, 2, "---+", []int{2}, []int{1, 3}},
		{"the one that is not asked for any more goes, the middle one", []int{1, 2, 3, 4, 3, 1}, 3, "----++", []int{2}, []int{1, 3, 4}},
		{"not asked for any more is later than the last request", []int{1, 2, 3, 3, 3, 2}, 2, "---+++", []int{1}, []int{2, 3}},
		{"not asked for any more, and greater than who waits to the end", []int{1, 2, 3, 3, 3, 1}, 2, "---+++", []int{2}, []int{1, 3}},
		{"none is asked for any more: the least", []int{7, 4, 9, 5}, 3, "----", []int{4}, []int{5, 7, 9}},
		{"none any more, the least came last", []int{9, 7, 4, 5}, 3, "----", []int{4}, []int{5, 7, 9}},
		{"two are not asked for any more: the lesser", []int{4, 9, 7, 5, 4}, 3, "----+", []int{7}, []int{4, 5, 9}},
		{"the least goes, though it just came", []int{1, 2, 0, 3}, 2, "----", []int{1, 0}, []int{2, 3}},
		{"all are asked for: the latest, the last", []int{1, 2, 3, 4, 1, 2, 3}, 3, "----++-", []int{3, 1}, []int{2, 3, 4}},
		{"all are asked for: the latest, the first", []int{1, 2, 3, 4, 3, 2, 1}, 3, "----++-", []int{1, 2}, []int{1, 3, 4}},
		{"all are asked for: the latest, the middle one", []int{1, 2, 3, 4, 3, 1, 2}, 3, "----++-", []int{2, 1}, []int{2, 3, 4}},
		{"the next request counts, not the last", []int{1, 2, 3, 1, 2, 1}, 2, "---+-+", []int{2, 3}, []int{1, 2}},
		{"nor how often it is asked for", []int{1, 2, 3, 1, 2, 2, 2}, 2, "---+-++", []int{2, 1}, []int{2, 3}},
		{"what was asked for is past", []int{1, 2, 2, 2, 3, 1}, 2, "--++-+", []int{2}, []int{1, 3}},
		{"who is let go of may come again", []int{1, 2, 3, 1, 2, 3}, 2, "---+-+", []int{2, 1}, []int{2, 3}},
		{"one page is let go of twice", []int{1, 2, 3, 1, 2, 1, 3, 1, 2}, 2, "---+-+-+-", []int{2, 3, 2, 1}, []int{2, 3}},
		{"around by one page too many", []int{1, 2, 3, 4, 1, 2, 3, 4}, 3, "----++-+", []int{3, 1}, []int{2, 3, 4}},
		{"three slots miss seven", []int{1, 2, 3, 4, 1, 2, 5, 1, 2, 3, 4, 5}, 3, "----++-++--+", []int{3, 4, 1, 2}, []int{3, 4, 5}},
		{"four slots miss six of the same", []int{1, 2, 3, 4, 1, 2, 5, 1, 2, 3, 4, 5}, 4, "----++-+++-+", []int{4, 1}, []int{2, 3, 4, 5}},
		{"MaxReqs, one slot", around(api.MaxReqs, api.MaxPages), 1, marks(make([]bool, 40)), around(api.MaxReqs-1, api.MaxPages), []int{7}},
		{"MaxReqs, MaxSlots", around(api.MaxReqs, 9), 8, "---------+++++++-+++++++-+++++++-+++++++", []int{7, 6, 5, 4}, []int{0, 1, 2, 3, 5, 6, 7, 8}},
	}
	for _, c := range cases {
		t.Run(c.name, func(t *testing.T) {
			there, out, held, err := opt.Run(c.reqs, c.slots)
			if err != nil || marks(there) != c.there || !slices.Equal(out, c.out) || !slices.Equal(held, c.held) {
				t.Errorf("got %s %v %v %v, want %s %v %v", marks(there), out, held, err, c.there, c.out, c.held)
			}
		})
	}
}

func TestRunFaults(t *testing.T) {
	full := around(api.MaxReqs, api.MaxPages)
	over := around(api.MaxReqs+1, api.MaxPages)
	cases := []struct {
		name  string
		reqs  []int
		slots int
		want  api.Errno
	}{
		{"MaxReqs requests", full, 3, api.OK},
		{"one request more", over, 3, api.ErrFull},
		{"page MaxPages - 1", []int{api.MaxPages - 1}, 1, api.OK},
		{"page MaxPages", []int{api.MaxPages}, 1, api.ErrRange},
		{"page -1", []int{-1}, 1, api.ErrRange},
		{"the least page", []int{math.MinInt}, 1, api.ErrRange},
		{"the greatest page", []int{math.MaxInt}, 1, api.ErrRange},
		{"only the first is no page", with(full, 0, -1), 3, api.ErrRange},
		{"only the last is no page", with(full, api.MaxReqs-1, api.MaxPages), 3, api.ErrRange},
		{"MaxSlots slots", []int{1, 2}, api.MaxSlots, api.OK},
		{"no slot", []int{1, 2}, 0, api.ErrRange},
		{"slots below 0", []int{1, 2}, -1, api.ErrRange},
		{"a slot more than MaxSlots", []int{1, 2}, api.MaxSlots + 1, api.ErrRange},
		{"the least slots", []int{1, 2}, math.MinInt, api.ErrRange},
		{"the greatest slots", []int{1, 2}, math.MaxInt, api.ErrRange},
		{"no slot for no request", nil, 0, api.ErrRange},
		{"too many, and one is no page", with(over, 0, -1), 3, api.ErrFull},
		{"too many, and no slot", over, 0, api.ErrFull},
		{"too many, no page, no slot", with(over, 0, 16), 9, api.ErrFull},
		{"no page, and no slot", []int{-1}, 0, api.ErrRange},
	}
	for _, c := range cases {
		t.Run(c.name, func(t *testing.T) {
			there, out, held, err := opt.Run(c.reqs, c.slots)
			if got := plain.Told(err); got != c.want {
				t.Errorf("told %v, want %v", got, c.want)
			}
			if c.want != api.OK && (len(there) != 0 || len(out) != 0 || len(held) != 0) {
				t.Errorf("beside an error told %v %v %v", there, out, held)
			}
		})
	}
}

// lastMet strikes pages out of a set as they are asked for, until one is left, or nothing is asked for any more; it tells the least that is left.
func lastMet(set int, coming []int) int {
	for _, page := range coming {
		if set&(set-1) == 0 {
			break
		}
		set &^= 1 << page
	}
	least := 0
	for set>>least&1 == 0 {
		least++
	}
	return least
}

// byStriking plays by sets of bits, and lets go of what lastMet tells, so that no step of it is a step of Run.
func byStriking(reqs []int, slots int) (there []bool, out, held []int) {
	set, free := 0, slots
	for i, page := range reqs {
		was := set>>page&1 == 1
		there = append(there, was)
		if was {
			continue
		}
		if free > 0 {
			free--
		} else {
			gone := lastMet(set, reqs[i+1:])
			out = append(out, gone)
			set &^= 1 << gone
		}
		set |= 1 << page
	}
	for page := range api.MaxPages {
		if set>>page&1 == 1 {
			held = append(held, page)
		}
	}
	return there, out, held
}

// missed counts the requests whose page was not there.
func missed(there []bool) int {
	count := 0
	for _, was := range there {
		if !was {
			count++
		}
	}
	return count
}

// compare holds Run against byStriking, and against chapter 1's store that is told the same pages to let go of.
func compare(t *testing.T, reqs []int, slots int) {
	t.Helper()
	there, out, held, err := opt.Run(reqs, slots)
	wantThere, wantOut, wantHeld := byStriking(reqs, slots)
	if err != nil || !slices.Equal(there, wantThere) || !slices.Equal(out, wantOut) || !slices.Equal(held, wantHeld) {
		t.Fatalf("Run(%v, %d): got %v %v %v %v, want %v %v %v", reqs, slots, there, out, held, err, wantThere, wantOut, wantHeld)
	}
	count, rising, err := play.Run(reqs, slots, out)
	if err != nil || count != missed(there) || !slices.Equal(rising, held) || len(out) != count-len(held) {
		t.Fatalf("Run(%v, %d): missed %d, let go of %v, holds %v; the store told %d %v %v", reqs, slots, missed(there), out, held, count, rising, err)
	}
}

// least tells how seldom a page can be not there, whoever is let go of: from set to set of pages, with all that may be let go of tried.
func least(reqs []int, slots int) int {
	states := map[int]int{0: 0}
	for i, page := range reqs {
		next := map[int]int{}
		note := func(set, cost int) {
			if known, ok := next[set]; !ok || cost < known {
				next[set] = cost
			}
		}
		for set, cost := range states {
			switch {
			case set>>page&1 == 1:
				note(set, cost)
			case len(distinct(reqs[:i])) < slots:
				note(set|1<<page, cost+1)
			default:
				for gone := range api.MaxPages {
					if set>>gone&1 == 1 {
						note(set&^(1<<gone)|1<<page, cost+1)
					}
				}
			}
		}
		states = next
	}
	best := math.MaxInt
	for _, cost := range states {
		best = min(best, cost)
	}
	return best
}

// distinct gives the pages of requests, each once; as long as they are fewer than slots a store has let go of none.
func distinct(reqs []int) []int {
	return slices.Compact(slices.Sorted(slices.Values(reqs)))
}

// noBetter fails where whoever keeps to another rule misses less often, or one slot less does; before is what that one missed.
func noBetter(t *testing.T, reqs []int, slots, before int) int {
	t.Helper()
	there, _, _, _ := opt.Run(reqs, slots)
	count := missed(there)
	byLast, _, _ := lru.Run(reqs, slots)
	byFirst, _, _ := fifo.Run(reqs, slots)
	byMarks, _, _, _ := clock.Run(reqs, slots)
	byAll, _, _ := flush.Run(reqs, slots)
	for _, other := range [][]bool{byLast, byFirst, byMarks, byAll} {
		if missed(other) < count {
			t.Fatalf("Run(%v, %d): missed %d, another rule %d", reqs, slots, count, missed(other))
		}
	}
	if count > before {
		t.Fatalf("Run(%v, %d): missed %d, with a slot less %d", reqs, slots, count, before)
	}
	return count
}

// lists gives all lists of up to so many of the numbers below a bound.
func lists(most, below int) [][]int {
	all := [][]int{nil}
	for from := 0; most > 0; most-- {
		till := len(all)
		for ; from < till; from++ {
			for thing := range below {
				all = append(all, append(slices.Clone(all[from]), thing))
			}
		}
	}
	return all
}

func TestRunAllSmall(t *testing.T) {
	for _, reqs := range lists(7, 4) {
		before := len(reqs)
		for slots := 1; slots <= 4; slots++ {
			compare(t, reqs, slots)
			before = noBetter(t, reqs, slots, before)
		}
	}
}

// scattered gives requests that jump about, the same ones for the same seed.
func scattered(seed, n, pages int) []int {
	reqs := make([]int, n)
	state := uint64(seed) + 1
	for i := range reqs {
		state = state*6364136223846793005 + 1442695040888963407
		reqs[i] = int(state >> 33 % uint64(pages))
	}
	return reqs
}

func TestRunLong(t *testing.T) {
	for seed := range 200 {
		reqs := scattered(seed, api.MaxReqs, 2+seed%(api.MaxPages-1))
		before := len(reqs)
		for slots := 1; slots <= api.MaxSlots; slots++ {
			compare(t, reqs, slots)
			before = noBetter(t, reqs, slots, before)
		}
	}
}

func TestNobodyLetsGoBetter(t *testing.T) {
	for seed := range 60 {
		reqs := scattered(seed, api.MaxReqs-seed%7, 2+seed%7)
		for slots := 1; slots <= 5; slots++ {
			there, _, _, _ := opt.Run(reqs, slots)
			if want := least(reqs, slots); missed(there) != want {
				t.Fatalf("Run(%v, %d): missed %d, the least is %d", reqs, slots, missed(there), want)
			}
		}
	}
}

func TestListsAreLeftAlone(t *testing.T) {
	cases := []struct {
		name  string
		reqs  []int
		slots int
	}{
		{"well", []int{9, 3, 1, 9, 3}, 2},
		{"nothing let go of", []int{9, 3, 1, 9}, 3},
		{"no request", nil, 3},
		{"ErrFull", around(api.MaxReqs+1, 3), 2},
		{"ErrRange", []int{9, 16}, 2},
	}
	for _, c := range cases {
		t.Run(c.name, func(t *testing.T) {
			whole := append(slices.Clone(c.reqs), 11, 12, 13)
			was := slices.Clone(whole)
			there, out, held, _ := opt.Run(whole[:len(c.reqs)], c.slots)
			for i := range out {
				out[i] = -6
			}
			for i := range held {
				held[i] = -7
			}
			_, _, _ = append(out, -8), append(held, -8), append(there, true)
			if !slices.Equal(whole, was) {
				t.Errorf("the list was %v, is %v", was, whole)
			}
		})
	}
}

func TestBehindTheLengthNothingIsRead(t *testing.T) {
	whole := []int{1, 2, 3, 1}
	_, out, _, _ := opt.Run(whole[:3], 2)
	if !slices.Equal(out, []int{1}) {
		t.Errorf("let go of %v, want [1], as page 1 is asked for only behind the list's length", out)
	}
}

func TestAnswersAreTheCallers(t *testing.T) {
	reqs := []int{9, 3, 9, 1, 3, 9}
	firstThere, firstOut, first, _ := opt.Run(reqs, 2)
	secondThere, secondOut, second, _ := opt.Run(reqs, 2)
	const want = "--+-+-[9 1][3 9]"
	for i := range first {
		first[i] = -7
	}
	for i := range firstOut {
		firstOut[i] = -7
	}
	for i := range firstThere {
		firstThere[i] = true
	}
	for i := range reqs {
		reqs[i] = 0
	}
	if got := marks(secondThere) + fmt.Sprint(secondOut) + fmt.Sprint(second); got != want {
		t.Errorf("an answer shares memory: %s, want %s", got, want)
	}
}

func TestListsOfOneAnswerShareNothing(t *testing.T) {
	for _, slots := range []int{1, 2, 3, 5, api.MaxSlots} {
		_, out, held, _ := opt.Run(around(api.MaxReqs, api.MaxPages), slots)
		was := slices.Clone(held)
		wide := out[:cap(out)]
		for i := range wide {
			wide[i] = -7
		}
		if !slices.Equal(held, was) {
			t.Errorf("%d slots: what is there was %v, is %v", slots, was, held)
		}
		was = slices.Clone(out)
		wide = held[:cap(held)]
		for i := range wide {
			wide[i] = -9
		}
		if !slices.Equal(out, was) {
			t.Errorf("%d slots: what was let go of was %v, is %v", slots, was, out)
		}
	}
}

func TestNothingIsKeptBetweenCalls(t *testing.T) {
	reqs := []int{9, 3, 1, 9, 3}
	ask := func() string {
		there, out, held, err := opt.Run(reqs, 2)
		return fmt.Sprint(there, out, held, err)
	}
	want := ask()
	opt.Run([]int{4, 9, 3, 7}, 4)
	opt.Run([]int{9, 16}, 1)
	opt.Run([]int{9}, 0)
	if got := ask(); got != want {
		t.Errorf("behind other calls got %s, want %s", got, want)
	}
}
