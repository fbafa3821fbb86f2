package flush_test

import (
	"fmt"
	"math"
	"slices"
	"testing"

	"larderwick/api"
	"larderwick/flush"
	"larderwick/plain"
	"larderwick/play"
)

// around gives n requests that go around so many pages.
func around(n, pages int) []int {
	reqs := make([]int, n)
	for i := range reqs {
		reqs[i] = i % pages
	}
	return reqs
}

// with gives a copy of a list in which one thing is another.
func with(list []int, at, thing int) []int {
	changed := slices.Clone(list)
	changed[at] = thing
	return changed
}

// marks writes what was told of each request: + if its page was there.
func marks(there []bool) string {
	text := make([]byte, len(there))
	for i, was := range there {
		text[i] = '-'
		if was {
			text[i] = '+'
		}
	}
	return string(text)
}

func TestRun(t *testing.T) {
	cases := []struct {
		name  string
		reqs  []int
		slots int
		there string
		held  []int
	}{
		{"nil, no requests", nil, 1, "", nil},
		{"empty, no requests", []int{}, api.MaxSlots, "", nil},
		{"one page", []int{5}, 1, "-", []int{5}},
		{"one page again and again", []int{5, 5, 5}, 1, "-++", []int{5}},
		{"page 0 is not there at first", []int{0, 0}, 3, "-+", []int{0}},
		{"pages at both ends", []int{15, 0}, 2, "--", []int{15, 0}},
		{"as they came, not rising", []int{9, 2, 7, 4}, 4, "----", []int{9, 2, 7, 4}},
		{"slots are left", []int{9, 2, 9}, 8, "--+", []int{9, 2}},
		{"just as many pages as slots", []int{7, 6, 5, 4, 3, 2, 1, 0, 7, 0}, 8, "--------++", []int{7, 6, 5, 4, 3, 2, 1, 0}},
		{"one slot", []int{1, 2, 1, 1, 2}, 1, "---+-", []int{2}},
		{"all go, and who comes is there", []int{1, 2, 3}, 2, "---", []int{3}},
		{"full is not yet too full", []int{1, 2, 3}, 3, "---", []int{1, 2, 3}},
		{"full, and asked for what is there", []int{1, 2, 3, 3, 1, 2}, 3, "---+++", []int{1, 2, 3}},
		{"who was let go of comes again", []int{1, 2, 3, 1, 2}, 2, "-----", []int{2}},
		{"who came last goes too", []int{1, 2, 3, 2}, 2, "----", []int{3, 2}},
		{"who comes by letting go stays", []int{1, 2, 3, 3, 1, 3}, 2, "---+-+", []int{3, 1}},
		{"asked for again goes too", []int{1, 2, 1, 2, 3, 2, 1}, 2, "--++---", []int{1}},
		{"asking again does not change who came first", []int{1, 2, 3, 2, 1}, 4, "---++", []int{1, 2, 3}},
		{"the slots are free again", []int{1, 2, 3, 4, 5, 6, 4}, 3, "------+", []int{4, 5, 6}},
		{"let go of twice", []int{1, 2, 3, 4, 5, 6, 7, 1}, 3, "--------", []int{7, 1}},
		{"all come and stay", []int{1, 2, 3, 4, 1, 2, 3, 4}, 4, "----++++", []int{1, 2, 3, 4}},
		{"around by one page too many", []int{1, 2, 3, 4, 1, 2, 3, 4}, 3, "--------", []int{3, 4}},
		{"MaxReqs, MaxSlots", around(api.MaxReqs, api.MaxPages), 8, marks(make([]bool, 40)), []int{0, 1, 2, 3, 4, 5, 6, 7}},
		{"many, and one alone at the end", around(api.MaxReqs, 11)[:33], 8, marks(make([]bool, 33)), []int{10}},
		{"MaxReqs, one slot", around(api.MaxReqs, api.MaxPages), 1, marks(make([]bool, 40)), []int{7}},
	}
	for _, c := range cases {
		t.Run(c.name, func(t *testing.T) {
			there, held, err := flush.Run(c.reqs, c.slots)
			if err != nil || marks(there) != c.there || !slices.Equal(held, c.held) {
				t.Errorf("got %s %v %v, want %s %v", marks(there), held, err, c.there, c.held)
			}
		})
	}
}

func TestRunFaults(t *testing.T) {
	full := around(api.MaxReqs, api.MaxPages)
	over := around(api.MaxReqs+1, api.MaxPages)
	cases := []struct {
		name  string
		reqs  []int
		slots int
		want  api.Errno
	}{
		{"MaxReqs requests", full, 3, api.OK},
		{"one request more", over, 3, api.ErrFull},
		{"page MaxPages - 1", []int{api.MaxPages - 1}, 1, api.OK},
		{"page MaxPages", []int{api.MaxPages}, 1, api.ErrRange},
		{"page -1", []int{-1}, 1, api.ErrRange},
		{"the least page", []int{math.MinInt}, 1, api.ErrRange},
		{"the greatest page", []int{math.MaxInt}, 1, api.ErrRange},
		{"only the first is no page", with(full, 0, -1), 3, api.ErrRange},
		{"only the last is no page", with(full, api.MaxReqs-1, api.MaxPages), 3, api.ErrRange},
		{"MaxSlots slots", []int{1, 2}, api.MaxSlots, api.OK},
		{"no slot", []int{1, 2}, 0, api.ErrRange},
		{"slots below 0", []int{1, 2}, -1, api.ErrRange},
		{"a slot more than MaxSlots", []int{1, 2}, api.MaxSlots + 1, api.ErrRange},
		{"the least slots", []int{1, 2}, math.MinInt, api.ErrRange},
		{"the greatest slots", []int{1, 2}, math.MaxInt, api.ErrRange},
		{"no slot for no request", nil, 0, api.ErrRange},
		{"too many, and one is no page", with(over, 0, -1), 3, api.ErrFull},
		{"too many, and no slot", over, 0, api.ErrFull},
		{"too many, no page, no slot", with(over, 0, 16), 9, api.ErrFull},
		{"no page, and no slot", []int{-1}, 0, api.ErrRange},
	}
	for _, c := range cases {
		t.Run(c.name, func(t *testing.T) {
			there, held, err := flush.Run(c.reqs, c.slots)
			if got := plain.Told(err); got != c.want {
				t.Errorf("told %v, want %v", got, c.want)
			}
			if c.want != api.OK && (len(there) != 0 || len(held) != 0) {
				t.Errorf("beside an error told %v %v", there, held)
			}
		})
	}
}

// byNumbers plays without a store: who was not there is numbered, from 0 on, and all go at each number that slots divide; so there are those whose number has the same whole part, by slots, as the last one.
func byNumbers(reqs []int, slots int) (there []bool, held []int) {
	var came []int
	number := map[int]int{}
	for _, page := range reqs {
		last, known := number[page]
		was := known && last/slots == (len(came)-1)/slots
		there = append(there, was)
		if !was {
			number[page] = len(came)
			came = append(came, page)
		}
	}
	for at, page := range came {
		if at/slots == (len(came)-1)/slots {
			held = append(held, page)
		}
	}
	return there, held
}

// byPieces plays each piece of the requests in an empty store of chapter 1 that is told nothing to let go of; a new piece begins where that has no slot. It tells how often a page was not there, and which are at the end, rising.
func byPieces(t *testing.T, reqs []int, slots int) (int, []int) {
	t.Helper()
	from, before, missed := 0, 0, 0
	var held []int
	for till := 1; till <= len(reqs); till++ {
		count, rising, err := play.Run(reqs[from:till], slots, nil)
		if plain.Told(err) == api.ErrShape {
			from, before = till-1, missed
			count, rising, err = play.Run(reqs[from:till], slots, nil)
		}
		if err != nil {
			t.Fatalf("the store told %v of %v, %d", err, reqs[from:till], slots)
		}
		missed, held = before+count, rising
	}
	return missed, held
}

// missed counts the requests whose page was not there.
func missed(there []bool) int {
	count := 0
	for _, was := range there {
		if !was {
			count++
		}
	}
	return count
}

// compare holds Run against byNumbers, and against byPieces.
func compare(t *testing.T, reqs []int, slots int) {
	t.Helper()
	there, held, err := flush.Run(reqs, slots)
	wantThere, wantHeld := byNumbers(reqs, slots)
	if err != nil || !slices.Equal(there, wantThere) || !slices.Equal(held, wantHeld) {
		t.Fatalf("Run(%v, %d): got %v %v %v, want %v %v", reqs, slots, there, held, err, wantThere, wantHeld)
	}
	count, rising := byPieces(t, reqs, slots)
	slices.Sort(held)
	if count != missed(there) || !slices.Equal(rising, held) {
		t.Fatalf("Run(%v, %d): missed %d, holds %v; by pieces %d %v", reqs, slots, missed(there), held, count, rising)
	}
}

// lists gives all lists of up to so many of the numbers below a bound.
func lists(most, below int) [][]int {
	all := [][]int{nil}
	for from := 0; most > 0; most-- {
		till := len(all)
		for ; from < till; from++ {
			for thing := range below {
				all = append(all, append(slices.Clone(all[from]), thing))
			}
		}
	}
	return all
}

func TestRunAllSmall(t *testing.T) {
	for _, reqs := range lists(7, 4) {
		for slots := 1; slots <= 4; slots++ {
			compare(t, reqs, slots)
		}
	}
}

// scattered gives requests that jump about, the same ones for the same seed.
func scattered(seed, n, pages int) []int {
	reqs := make([]int, n)
	state := uint64(seed) + 1
	for i := range reqs {
		state = state*6364136223846793005 + 1442695040888963407
		reqs[i] = int(state >> 33 % uint64(pages))
	}
	return reqs
}

func TestRunLong(t *testing.T) {
	for seed := range 200 {
		reqs := scattered(seed, api.MaxReqs, 2+seed%(api.MaxPages-1))
		for slots := 1; slots <= api.MaxSlots; slots++ {
			compare(t, reqs, slots)
		}
	}
}

func TestListsAreLeftAlone(t *testing.T) {
	cases := []struct {
		name  string
		reqs  []int
		slots int
	}{
		{"well", []int{9, 3, 1, 9, 3}, 2},
		{"nothing let go of", []int{9, 3, 1, 9}, 3},
		{"no request", nil, 3},
		{"ErrFull", around(api.MaxReqs+1, 3), 2},
		{"ErrRange", []int{9, 16}, 2},
	}
	for _, c := range cases {
		t.Run(c.name, func(t *testing.T) {
			whole := append(slices.Clone(c.reqs), 11, 12, 13)
			was := slices.Clone(whole)
			there, held, _ := flush.Run(whole[:len(c.reqs)], c.slots)
			for i := range held {
				held[i] = -7
			}
			_, _ = append(held, -8), append(there, true)
			if !slices.Equal(whole, was) {
				t.Errorf("the list was %v, is %v", was, whole)
			}
		})
	}
}

func TestAnswersAreTheCallers(t *testing.T) {
	reqs := []int{9, 3, 9, 1}
	firstThere, first, _ := flush.Run(reqs, 2)
	secondThere, second, _ := flush.Run(reqs, 2)
	for i := range first {
		first[i] = -7
	}
	for i := range firstThere {
		firstThere[i] = true
	}
	for i := range reqs {
		reqs[i] = 0
	}
	if got := fmt.Sprint(marks(secondThere), second); got != "--+-[1]" {
		t.Errorf("an answer shares memory: %s", got)
	}
}

func TestNothingIsKeptBetweenCalls(t *testing.T) {
	reqs := []int{9, 3, 1, 9, 3}
	ask := func() string {
		there, held, err := flush.Run(reqs, 2)
		return fmt.Sprint(there, held, err)
	}
	want := ask()
	flush.Run([]int{4, 9, 3, 7}, 4)
	flush.Run([]int{9, 16}, 1)
	flush.Run([]int{9}, 0)
	if got := ask(); got != want {
		t.Errorf("behind other calls got %s, want %s", got, want)
	}
}
