package clock_test

import (
	"fmt"
	"math"
	"slices"
	"testing"

	"larderwick/api"
	"larderwick/clock"
	"larderwick/fifo"
	"larderwick/plain"
	"larderwick/play"
)

// around gives n requests that go around so many pages.
func around(n, pages int) []int {
	reqs := make([]int, n)
	for i := range reqs {
		reqs[i] = i % pages
	}
	return reqs
}

// with gives a copy of a list in which one thing is another.
func with(list []int, at, thing int) []int {
	changed := slices.Clone(list)
	changed[at] = thing
	return changed
}

// marks writes what was told of each request: + if its page was there.
func marks(there []bool) string {
	text := make([]byte, len(there))
	for i, was := range there {
		text[i] = '-'
		if was {
			text[i] = '+'
		}
	}
	return string(text)
}

func TestRun(t *testing.T) {
	cases := []struct {
		name  string
		reqs  []int
		slots int
		there string
		held  []int
		hand  int
	}{
		{"nil, no requests", nil, 1, "", nil, 0},
		{"empty, no requests", []int{}, api.MaxSlots, "", nil, 0},
		{"one page", []int{5}, 1, "-", []int{5}, 0},
		{"one page again and again", []int{5, 5, 5}, 1, "-++", []int{5}, 0},
		{"page 0 is not there at first", []int{0, 0}, 3, "-+", []int{0}, 0},
		{"pages at both ends", []int{15, 0}, 2, "--", []int{15, 0}, 0},
		{"slot by slot, not rising", []int{9, 2, 7, 4}, 4, "----", []int{9, 2, 7, 4}, 0},
		{"a free slot does not move the hand", []int{9, 2, 9, 7}, 8, "--+-", []int{9, 2, 7}, 0},
		{"just as many pages as slots", []int{7, 6, 5, 4, 3, 2, 1, 0, 7, 0}, 8, "--------++", []int{7, 6, 5, 4, 3, 2, 1, 0}, 0},
		{"one slot: the hand goes around to it", []int{1, 2, 1, 1, 2}, 1, "---+-", []int{2}, 0},
		{"a page that comes has a mark: all the way around", []int{1, 2, 3}, 2, "---", []int{3, 2}, 1},
		{"behind the last slot comes 0", []int{1, 2, 3, 4}, 2, "----", []int{3, 4}, 0},
		{"no mark: goes at once", []int{1, 2, 3, 4, 5}, 3, "-----", []int{4, 5, 3}, 2},
		{"asked for again: has a second chance", []int{1, 2, 3, 4, 2, 5}, 3, "----+-", []int{4, 2, 5}, 0},
		{"the mark is taken off on the way", []int{1, 2, 3, 4, 2, 5, 6, 7}, 3, "----+---", []int{7, 6, 5}, 1},
		{"asked for twice: one chance, not two", []int{1, 2, 3, 4, 2, 2, 5, 6, 7}, 3, "----++---", []int{7, 6, 5}, 1},
		{"asked for while all have marks: no matter", []int{1, 2, 2, 1, 3}, 2, "--++-", []int{3, 2}, 1},
		{"asking does not move the hand", []int{1, 2, 3, 4, 4, 3, 2}, 3, "----+++", []int{4, 2, 3}, 1},
		{"who is let go of may come again elsewhere", []int{1, 2, 3, 1, 3}, 2, "----+", []int{3, 1}, 0},
		{"who comes by letting go has a mark", []int{1, 2, 3, 4, 2, 3, 5}, 3, "----++-", []int{4, 5, 3}, 2},
		{"all come and stay", []int{1, 2, 3, 4, 1, 2, 3, 4}, 4, "----++++", []int{1, 2, 3, 4}, 0},
		{"around by one page too many", []int{1, 2, 3, 4, 1, 2, 3, 4}, 3, "--------", []int{3, 4, 2}, 2},
		{"MaxReqs, MaxSlots", around(api.MaxReqs, api.MaxPages), 8, marks(make([]bool, 40)), []int{0, 1, 2, 3, 4, 5, 6, 7}, 0},
		{"MaxReqs, one slot", around(api.MaxReqs, api.MaxPages), 1, marks(make([]bool, 40)), []int{7}, 0},
	}
	for _, c := range cases {
		t.Run(c.name, func(t *testing.T) {
			there, held, hand, err := clock.Run(c.reqs, c.slots)
			if err != nil || marks(there) != c.there || !slices.Equal(held, c.held) || hand != c.hand {
				t.Errorf("got %s %v %d %v, want %s %v %d", marks(there), held, hand, err, c.there, c.held, c.hand)
			}
		})
	}
}

func TestRunFaults(t *testing.T) {
	full := around(api.MaxReqs, api.MaxPages)
	over := around(api.MaxReqs+1, api.MaxPages)
	cases := []struct {
		name  string
		reqs  []int
		slots int
		want  api.Errno
	}{
		{"MaxReqs requests", full, 3, api.OK},
		{"one request more", over, 3, api.ErrFull},
		{"page MaxPages - 1", []int{api.MaxPages - 1}, 1, api.OK},
		{"page MaxPages", []int{api.MaxPages}, 1, api.ErrRange},
		{"page -1", []int{-1}, 1, api.ErrRange},
		{"the least page", []int{math.MinInt}, 1, api.ErrRange},
		{"the greatest page", []int{math.MaxInt}, 1, api.ErrRange},
		{"only the first is no page", with(full, 0, -1), 3, api.ErrRange},
		{"only the last is no page", with(full, api.MaxReqs-1, api.MaxPages), 3, api.ErrRange},
		{"MaxSlots slots", []int{1, 2}, api.MaxSlots, api.OK},
		{"no slot", []int{1, 2}, 0, api.ErrRange},
		{"slots below 0", []int{1, 2}, -1, api.ErrRange},
		{"a slot more than MaxSlots", []int{1, 2}, api.MaxSlots + 1, api.ErrRange},
		{"the least slots", []int{1, 2}, math.MinInt, api.ErrRange},
		{"the greatest slots", []int{1, 2}, math.MaxInt, api.ErrRange},
		{"no slot for no request", nil, 0, api.ErrRange},
		{"too many, and one is no page", with(over, 0, -1), 3, api.ErrFull},
		{"too many, and no slot", over, 0, api.ErrFull},
		{"too many, no page, no slot", with(over, 0, 16), 9, api.ErrFull},
		{"no page, and no slot", []int{-1}, 0, api.ErrRange},
	}
	for _, c := range cases {
		t.Run(c.name, func(t *testing.T) {
			there, held, hand, err := clock.Run(c.reqs, c.slots)
			if got := plain.Told(err); got != c.want {
				t.Errorf("told %v, want %v", got, c.want)
			}
			if c.want != api.OK && (len(there) != 0 || len(held) != 0 || hand != 0) {
				t.Errorf("beside an error told %v %v %d", there, held, hand)
			}
		})
	}
}

// byQueue plays without a hand: the pages stand in a line, who is next to be looked at first. Who has a mark loses it and goes behind all others; who has none goes. Where a page stands is remembered apart, so that no step of it is a step of Run. It also tells what is let go of, one by one.
func byQueue(reqs []int, slots int) (there []bool, held []int, hand int, out []int) {
	var line []int
	marked, place := map[int]bool{}, map[int]int{}
	for _, page := range reqs {
		was := slices.Contains(line, page)
		there = append(there, was)
		if was {
			marked[page] = true
			continue
		}
		place[page] = len(line)
		if len(line) == slots {
			for marked[line[0]] {
				delete(marked, line[0])
				line = append(line[1:], line[0])
			}
			place[page] = place[line[0]]
			out = append(out, line[0])
			line = line[1:]
		}
		line = append(line, page)
		marked[page] = true
	}
	held = slices.Clone(line)
	slices.SortFunc(held, func(a, b int) int { return place[a] - place[b] })
	if len(line) > 0 {
		hand = place[line[0]]
	}
	return there, held, hand, out
}

// missed counts the requests whose page was not there.
func missed(there []bool) int {
	count := 0
	for _, was := range there {
		if !was {
			count++
		}
	}
	return count
}

// compare holds Run against byQueue, and against chapter 1's store that is told the same pages to let go of.
func compare(t *testing.T, reqs []int, slots int) {
	t.Helper()
	there, held, hand, err := clock.Run(reqs, slots)
	wantThere, wantHeld, wantHand, out := byQueue(reqs, slots)
	if err != nil || !slices.Equal(there, wantThere) || !slices.Equal(held, wantHeld) || hand != wantHand {
		t.Fatalf("Run(%v, %d): got %v %v %d %v, want %v %v %d", reqs, slots, there, held, hand, err, wantThere, wantHeld, wantHand)
	}
	count, rising, err := play.Run(reqs, slots, out)
	slices.Sort(held)
	if err != nil || count != missed(there) || !slices.Equal(rising, held) {
		t.Fatalf("Run(%v, %d): missed %d, holds %v; the store told %d %v %v", reqs, slots, missed(there), held, count, rising, err)
	}
}

// lists gives all lists of up to so many of the numbers below a bound.
func lists(most, below int) [][]int {
	all := [][]int{nil}
	for from := 0; most > 0; most-- {
		till := len(all)
		for ; from < till; from++ {
			for thing := range below {
				all = append(all, append(slices.Clone(all[from]), thing))
			}
		}
	}
	return all
}

func TestRunAllSmall(t *testing.T) {
	for _, reqs := range lists(7, 4) {
		for slots := 1; slots <= 4; slots++ {
			compare(t, reqs, slots)
		}
	}
}

// scattered gives requests that jump about, the same ones for the same seed.
func scattered(seed, n, pages int) []int {
	reqs := make([]int, n)
	state := uint64(seed) + 1
	for i := range reqs {
		state = state*6364136223846793005 + 1442695040888963407
		reqs[i] = int(state >> 33 % uint64(pages))
	}
	return reqs
}

func TestRunLong(t *testing.T) {
	for seed := range 200 {
		reqs := scattered(seed, api.MaxReqs, 2+seed%(api.MaxPages-1))
		for slots := 1; slots <= api.MaxSlots; slots++ {
			compare(t, reqs, slots)
		}
	}
}

// TestNeverAskedAgain: where no page that is there is asked for, no mark is worth anything, and who came first goes.
func TestNeverAskedAgain(t *testing.T) {
	for slots := 1; slots <= api.MaxSlots; slots++ {
		for pages := slots + 1; pages <= api.MaxPages; pages++ {
			reqs := around(api.MaxReqs, pages)
			there, held, hand, err := clock.Run(reqs, slots)
			_, byComing, _ := fifo.Run(reqs, slots)
			turned := append(slices.Clone(held[hand:]), held[:hand]...)
			if err != nil || missed(there) != api.MaxReqs || !slices.Equal(turned, byComing) {
				t.Errorf("%d pages, %d slots: got %s %v %d %v, want %v from the hand on", pages, slots, marks(there), held, hand, err, byComing)
			}
		}
	}
}

func TestListsAreLeftAlone(t *testing.T) {
	cases := []struct {
		name  string
		reqs  []int
		slots int
	}{
		{"well", []int{9, 3, 1, 9, 3}, 2},
		{"nothing let go of", []int{9, 3, 1, 9}, 3},
		{"no request", nil, 3},
		{"ErrFull", around(api.MaxReqs+1, 3), 2},
		{"ErrRange", []int{9, 16}, 2},
	}
	for _, c := range cases {
		t.Run(c.name, func(t *testing.T) {
			whole := append(slices.Clone(c.reqs), 11, 12, 13)
			was := slices.Clone(whole)
			there, held, _, _ := clock.Run(whole[:len(c.reqs)], c.slots)
			for i := range held {
				held[i] = -7
			}
			_, _ = append(held, -8), append(there, true)
			if !slices.Equal(whole, was) {
				t.Errorf("the list was %v, is %v", was, whole)
			}
		})
	}
}

func TestAnswersAreTheCallers(t *testing.T) {
	reqs := []int{9, 3, 9, 1}
	firstThere, first, _, _ := clock.Run(reqs, 2)
	secondThere, second, hand, _ := clock.Run(reqs, 2)
	for i := range first {
		first[i] = -7
	}
	for i := range firstThere {
		firstThere[i] = true
	}
	for i := range reqs {
		reqs[i] = 0
	}
	if got := fmt.Sprint(marks(secondThere), second, hand); got != "--+-[1 3] 1" {
		t.Errorf("an answer shares memory: %s", got)
	}
}

func TestNothingIsKeptBetweenCalls(t *testing.T) {
	reqs := []int{9, 3, 1, 9, 3}
	ask := func() string {
		there, held, hand, err := clock.Run(reqs, 2)
		return fmt.Sprint(there, held, hand, err)
	}
	want := ask()
	clock.Run([]int{4, 9, 3, 7}, 4)
	clock.Run([]int{9, 16}, 1)
	clock.Run([]int{9}, 0)
	if got := ask(); got != want {
		t.Errorf("behind other calls got %s, want %s", got, want)
	}
}
