package landlord_test

import (
	"fmt"
	"math"
	"math/bits"
	"slices"
	"testing"

	"larderwick/api"
	"larderwick/clock"
	"larderwick/fifo"
	"larderwick/flush"
	"larderwick/landlord"
	"larderwick/lru"
	"larderwick/opt"
	"larderwick/plain"
)

// around gives n requests that go around so many pages.
func around(n, pages int) []int {
	reqs := make([]int, n)
	for i := range reqs {
		reqs[i] = i % pages
	}
	return reqs
}

// with gives a copy of a list in which one thing is another.
func with(list []int, at, thing int) []int {
	changed := slices.Clone(list)
	changed[at] = thing
	return changed
}

// same gives a list of n times one thing.
func same(n, thing int) []int {
	return slices.Repeat([]int{thing}, n)
}

func TestRunAndLeast(t *testing.T) {
	cases := []struct {
		name           string
		reqs, cost     []int
		slots          int
		paid           int
		pages, credits []int
		least          int
	}{
		{"nil, no requests", nil, nil, 1, 0, nil, nil, 0},
		{"empty, no requests", []int{}, []int{}, api.MaxSlots, 0, nil, nil, 0},
		{"no requests, but costs", nil, []int{3, 4}, 2, 0, nil, nil, 0},
		{"one page", []int{0}, []int{5}, 1, 5, []int{0}, []int{5}, 5},
		{"the last page", []int{5}, []int{1, 1, 1, 1, 1, 9}, 1, 9, []int{5}, []int{9}, 9},
		{"one page again and again", []int{0, 0, 0}, []int{5}, 1, 5, []int{0}, []int{5}, 5},
		{"for nothing", []int{0, 1, 0}, []int{0, 0}, 1, 0, []int{0}, []int{0}, 0},
		{"as they came, not rising", []int{2, 0, 1}, []int{7, 8, 9}, 3, 24, []int{2, 0, 1}, []int{9, 7, 8}, 24},
		{"slots are left", []int{1, 0, 1}, []int{3, 4}, 8, 7, []int{1, 0}, []int{4, 3}, 7},
		{"more slots than pages", around(12, 6), []int{1, 2, 3, 4, 5, 6}, 8, 21, []int{0, 1, 2, 3, 4, 5}, []int{1, 2, 3, 4, 5, 6}, 21},
		{"just as many pages as slots", []int{0, 1, 0, 1}, []int{3, 4}, 2, 7, []int{0, 1}, []int{3, 4}, 7},
		{"one slot", []int{0, 1, 0, 0, 1}, []int{3, 4}, 1, 14, []int{1}, []int{4}, 14},
		{"who has the least credit goes, the first", []int{0, 1, 2}, []int{2, 5, 3}, 2, 10, []int{1, 2}, []int{3, 3}, 10},
		{"who has the least credit goes, the last", []int{0, 1, 2}, []int{5, 2, 3}, 2, 10, []int{0, 2}, []int{3, 3}, 10},
		{"who has the least credit goes, the middle one", []int{0, 1, 2, 3}, []int{5, 2, 6, 1}, 3, 14, []int{0, 2, 3}, []int{3, 4, 1}, 14},
		{"two have none left: who came first goes, not the lesser; the other stays", []int{2, 0, 1}, []int{4, 9, 4}, 2, 17, []int{0, 1}, []int{0, 9}, 17},
		{"two of three have none left: who came first of them", []int{3, 1, 0, 2}, []int{4, 4, 1, 6}, 3, 15, []int{3, 0, 2}, []int{2, 0, 1}, 15},
		{"all have none left: one goes", []int{0, 1, 2, 3}, []int{4, 4, 4, 5}, 3, 17, []int{1, 2, 3}, []int{0, 0, 5}, 17},
		{"who has none left goes next, and the others lose nothing", []int{2, 0, 1, 3}, []int{4, 9, 4, 1}, 2, 18, []int{1, 3}, []int{9, 1}, 18},
		{"a page for nothing goes at once", []int{1, 0, 2}, []int{0, 9, 5}, 2, 14, []int{1, 2}, []int{9, 5}, 14},
		{"who comes does not pay at once", []int{0, 1, 2}, []int{9, 7, 0}, 2, 16, []int{0, 2}, []int{2, 0}, 16},
		{"asked for again: all its credit", []int{0, 1, 2, 0, 3}, []int{5, 2, 3, 4}, 2, 14, []int{0, 3}, []int{2, 4}, 14},
		{"not asked for again: the first goes", []int{0, 1, 2, 3}, []int{5, 2, 3, 4}, 2, 14, []int{2, 3}, []int{0, 4}, 14},
		{"asked for again, and no credit is too much", []int{0, 0, 0, 1, 2}, []int{5, 7, 3}, 2, 15, []int{1, 2}, []int{2, 3}, 15},
		{"asked for again, it still came first", []int{0, 1, 0, 2}, []int{3, 3, 3}, 2, 9, []int{1, 2}, []int{0, 3}, 9},
		{"who comes again comes behind all others", []int{0, 1, 2, 0}, []int{1, 1, 1}, 2, 4, []int{2, 0}, []int{1, 1}, 3},
		{"dear pages stay for long, though nobody asks for them", []int{0, 1, 2, 1, 2, 1, 2}, []int{20, 1, 1}, 2, 26, []int{0, 2}, []int{15, 1}, 22},
		{"dear pages go in the end", []int{0, 1, 2, 1, 2, 0}, []int{3, 1, 1}, 2, 10, []int{2, 0}, []int{1, 3}, 7},
		{"to let the cheap one go is better than the one that is asked for latest", []int{0, 1, 2, 1, 0}, []int{9, 1, 1}, 2, 12, []int{0, 1}, []int{9, 1}, 12},
		{"who comes has to stay", []int{0, 1, 0, 1, 0}, []int{9, 1}, 1, 29, []int{0}, []int{9}, 29},
		{"MaxReqs, one slot, MaxCost", around(api.MaxReqs, api.MaxFew), same(api.MaxFew, api.MaxCost), 1, 800, []int{3}, []int{20}, 800},
	}
	for _, c := range cases {
		t.Run(c.name, func(t *testing.T) {
			if err := landlord.Check(c.reqs, c.cost, c.slots); err != nil {
				t.Errorf("Check told %v", err)
			}
			paid, pages, credits, err := landlord.Run(c.reqs, c.cost, c.slots)
			if err != nil || paid != c.paid || !slices.Equal(pages, c.pages) || !slices.Equal(credits, c.credits) {
				t.Errorf("Run: got %d %v %v %v, want %d %v %v", paid, pages, credits, err, c.paid, c.pages, c.credits)
			}
			least, err := landlord.Least(c.reqs, c.cost, c.slots)
			if err != nil || least != c.least {
				t.Errorf("Least: got %d %v, want %d", least, err, c.least)
			}
		})
	}
}

func TestFaults(t *testing.T) {
	six := []int{1, 2, 3, 4, 5, 6}
	seven := append(slices.Clone(six), 7)
	full := around(api.MaxReqs, api.MaxFew)
	over := around(api.MaxReqs+1, api.MaxFew)
	cases := []struct {
		name       string
		reqs, cost []int
		slots      int
		want       api.Errno
	}{
		{"MaxReqs requests, MaxFew costs", full, six, 3, api.OK},
		{"one request more", over, six, 3, api.ErrFull},
		{"one page, one request more", around(api.MaxReqs+1, 1), six, 3, api.ErrFull},
		{"far too many requests", around(1_000, 3), six, 3, api.ErrFull},
		{"one cost more", full, seven, 3, api.ErrFull},
		{"one cost more, for no request", nil, seven, 3, api.ErrFull},
		{"far too many costs", full, same(1_000, 1), 3, api.ErrFull},
		{"too many of both", over, seven, 3, api.ErrFull},
		{"cost 0", []int{1}, []int{1, 0}, 1, api.OK},
		{"cost -1", []int{1}, []int{1, -1}, 1, api.ErrRange},
		{"cost MaxCost", []int{1}, []int{1, api.MaxCost}, 1, api.OK},
		{"cost MaxCost + 1", []int{1}, []int{1, api.MaxCost + 1}, 1, api.ErrRange},
		{"the least cost", []int{0}, []int{math.MinInt}, 1, api.ErrRange},
		{"the greatest cost", []int{0}, []int{math.MaxInt}, 1, api.ErrRange},
		{"only the first cost is none, and nobody asks for it", []int{1}, with(six, 0, -1), 1, api.ErrRange},
		{"only the last cost is none, and nobody asks for it", []int{1}, with(six, 5, 21), 1, api.ErrRange},
		{"a cost is none, for no request", nil, []int{21}, 1, api.ErrRange},
		{"page MaxFew - 1", []int{api.MaxFew - 1}, six, 1, api.OK},
		{"page MaxFew", []int{api.MaxFew}, six, 1, api.ErrRange},
		{"the last page of fewer", []int{2}, []int{1, 2, 3}, 1, api.OK},
		{"a page that has no cost", []int{3}, []int{1, 2, 3}, 1, api.ErrRange},
		{"no page has a cost", []int{0}, nil, 1, api.ErrRange},
		{"page -1", []int{-1}, six, 1, api.ErrRange},
		{"the least page", []int{math.MinInt}, six, 1, api.ErrRange},
		{"the greatest page", []int{math.MaxInt}, six, 1, api.ErrRange},
		{"only the first is no page", with(full, 0, -1), six, 3, api.ErrRange},
		{"only the middle one is no page", with(full, 20, api.MaxFew), six, 3, api.ErrRange},
		{"only the last is no page", with(full, api.MaxReqs-1, api.MaxFew), six, 3, api.ErrRange},
		{"one slot", []int{1, 2}, six, 1, api.OK},
		{"MaxSlots slots", []int{1, 2}, six, api.MaxSlots, api.OK},
		{"no slot", []int{1, 2}, six, 0, api.ErrRange},
		{"slots below 0", []int{1, 2}, six, -1, api.ErrRange},
		{"a slot more than MaxSlots", []int{1, 2}, six, api.MaxSlots + 1, api.ErrRange},
		{"the least slots", []int{1, 2}, six, math.MinInt, api.ErrRange},
		{"the greatest slots", []int{1, 2}, six, math.MaxInt, api.ErrRange},
		{"no slot for no request and no cost", nil, nil, 0, api.ErrRange},
		{"too many requests, and a cost is none", over, with(six, 0, -1), 3, api.ErrFull},
		{"too many requests, and the first is no page", with(over, 0, -1), six, 3, api.ErrFull},
		{"too many requests, and none has a cost", over, nil, 3, api.ErrFull},
		{"too many requests, and no slot", over, six, 0, api.ErrFull},
		{"too many costs, and the first is none", full, with(seven, 0, 21), 3, api.ErrFull},
		{"too many costs, and the last is none", full, with(seven, 6, -1), 3, api.ErrFull},
		{"too many costs, and a request is no page", with(full, 0, -1), seven, 3, api.ErrFull},
		{"too many costs, and no slot", full, seven, 0, api.ErrFull},
		{"too many, and all else is wrong", with(over, 0, -1), with(seven, 0, -1), 9, api.ErrFull},
		{"no cost, no page, no slot", []int{-1}, []int{-1}, 0, api.ErrRange},
	}
	for _, c := range cases {
		t.Run(c.name, func(t *testing.T) {
			if got := plain.Told(landlord.Check(c.reqs, c.cost, c.slots)); got != c.want {
				t.Errorf("Check told %v, want %v", got, c.want)
			}
			paid, pages, credits, err := landlord.Run(c.reqs, c.cost, c.slots)
			if got := plain.Told(err); got != c.want {
				t.Errorf("Run told %v, want %v", got, c.want)
			}
			least, err := landlord.Least(c.reqs, c.cost, c.slots)
			if got := plain.Told(err); got != c.want {
				t.Errorf("Least told %v, want %v", got, c.want)
			}
			if c.want != api.OK && (paid != 0 || len(pages) != 0 || len(credits) != 0 || least != 0) {
				t.Errorf("beside an error told %d %v %v, %d", paid, pages, credits, least)
			}
		})
	}
}

// byLevel plays without taking anything from anybody: a level rises, each page has a height up to which it stays, and its credit is how far that is above the level.
func byLevel(reqs, cost []int, slots int) (paid int, pages, credits []int) {
	level, height := 0, make([]int, len(cost))
	for _, page := range reqs {
		if !slices.Contains(pages, page) {
			paid += cost[page]
			if len(pages) == slots {
				gone := pages[0]
				for _, other := range pages[1:] {
					if height[other] < height[gone] {
						gone = other
					}
				}
				level = height[gone]
				pages = slices.DeleteFunc(pages, func(p int) bool { return p == gone })
			}
			pages = append(pages, page)
		}
		height[page] = level + cost[page]
	}
	for _, page := range pages {
		credits = append(credits, height[page]-level)
	}
	return paid, pages, credits
}

// fromTheEnd finds the least cost from the last request back to the first: of each set of pages what all requests from one on cost.
func fromTheEnd(reqs, cost []int, slots int) int {
	sets := 1 << len(cost)
	ahead := make([]int, sets)
	for i := len(reqs) - 1; i >= 0; i-- {
		own := 1 << reqs[i]
		now := make([]int, sets)
		for set := range sets {
			switch {
			case set&own != 0:
				now[set] = ahead[set]
			case bits.OnesCount(uint(set)) < slots:
				now[set] = cost[reqs[i]] + ahead[set|own]
			default:
				now[set] = math.MaxInt
				for page := range cost {
					if set>>page&1 == 1 {
						now[set] = min(now[set], cost[reqs[i]]+ahead[set&^(1<<page)|own])
					}
				}
			}
		}
		ahead = now
	}
	return ahead[0]
}

// compare holds Run against byLevel, and Least against fromTheEnd.
func compare(t *testing.T, reqs, cost []int, slots int) {
	t.Helper()
	wantPaid, wantPages, wantCredits := byLevel(reqs, cost, slots)
	paid, pages, credits, err := landlord.Run(reqs, cost, slots)
	if err != nil || paid != wantPaid || !slices.Equal(pages, wantPages) || !slices.Equal(credits, wantCredits) {
		t.Fatalf("Run(%v, %v, %d): got %d %v %v %v, want %d %v %v", reqs, cost, slots, paid, pages, credits, err, wantPaid, wantPages, wantCredits)
	}
	least, err := landlord.Least(reqs, cost, slots)
	if want := fromTheEnd(reqs, cost, slots); err != nil || least != want {
		t.Fatalf("Least(%v, %v, %d): got %d %v, want %d", reqs, cost, slots, least, err, want)
	}
}

// lists gives all lists of up to so many of the numbers below a bound.
func lists(most, below int) [][]int {
	all := [][]int{nil}
	for from := 0; most > 0; most-- {
		till := len(all)
		for ; from < till; from++ {
			for thing := range below {
				all = append(all, append(slices.Clone(all[from]), thing))
			}
		}
	}
	return all
}

func TestAllSmall(t *testing.T) {
	costs := [][]int{{0, 0, 0}, {1, 1, 1}, {0, 1, 3}, {3, 1, 0}, {2, 3, 2}, {1, 2, 3}, {20, 19, 1}}
	for _, reqs := range lists(6, 3) {
		for _, cost := range costs {
			for slots := 1; slots <= 3; slots++ {
				compare(t, reqs, cost, slots)
			}
		}
	}
	for _, reqs := range lists(5, 4) {
		for slots := 1; slots <= 4; slots++ {
			compare(t, reqs, []int{4, 2, 2, 3}, slots)
		}
	}
}

// scattered gives numbers that jump about below a bound, the same ones for the same seed.
func scattered(seed, n, below int) []int {
	list := make([]int, n)
	state := uint64(seed) + 1
	for i := range list {
		state = state*6364136223846793005 + 1442695040888963407
		list[i] = int(state >> 33 % uint64(below))
	}
	return list
}

// long gives requests, as many as there may be or some fewer, and costs: of some seeds nearly all are alike, of others not.
func long(seed int) (reqs, cost []int) {
	pages := 1 + seed%api.MaxFew
	cost = scattered(seed+1_000, pages, []int{2, 4, api.MaxCost + 1}[seed%3])
	return scattered(seed, api.MaxReqs-seed%4, pages), cost
}

func TestLong(t *testing.T) {
	for seed := range 300 {
		reqs, cost := long(seed)
		for slots := 1; slots <= api.MaxSlots; slots++ {
			compare(t, reqs, cost, slots)
		}
	}
}

// A landlord costs no more than as many times the least as there are slots, and nobody costs less than the least.
func TestALandlordIsNotMuchWorse(t *testing.T) {
	for seed := range 300 {
		reqs, cost := long(seed)
		for slots := 1; slots <= api.MaxSlots; slots++ {
			paid, _, _, _ := landlord.Run(reqs, cost, slots)
			least, _ := landlord.Least(reqs, cost, slots)
			if paid < least || paid > slots*least {
				t.Fatalf("%v, %v, %d: paid %d, where the least is %d", reqs, cost, slots, paid, least)
			}
		}
	}
}

// paidBy tells what those pages cost that were not there.
func paidBy(reqs, cost []int, there []bool) int {
	paid := 0
	for i, page := range reqs {
		if !there[i] {
			paid += cost[page]
		}
	}
	return paid
}

func TestNobodyPaysLess(t *testing.T) {
	for seed := range 300 {
		reqs, cost := long(seed)
		for slots := 1; slots <= api.MaxSlots; slots++ {
			least, _ := landlord.Least(reqs, cost, slots)
			oldest, _, _ := lru.Run(reqs, slots)
			first, _, _ := fifo.Run(reqs, slots)
			second, _, _, _ := clock.Run(reqs, slots)
			all, _, _ := flush.Run(reqs, slots)
			latest, _, _, _ := opt.Run(reqs, slots)
			for _, there := range [][]bool{oldest, first, second, all, latest} {
				if paid := paidBy(reqs, cost, there); paid < least {
					t.Fatalf("%v, %v, %d: the least is %d, but %d is paid", reqs, cost, slots, least, paid)
				}
			}
		}
	}
}

// Where all pages cost the same, the least is what chapter 6 misses.
func TestLeastOfEqualCosts(t *testing.T) {
	for seed := range 120 {
		reqs, _ := long(seed)
		for _, price := range []int{0, 1, 7, api.MaxCost} {
			cost := same(api.MaxFew, price)
			for slots := 1; slots <= api.MaxSlots; slots++ {
				least, _ := landlord.Least(reqs, cost, slots)
				there, _, _, _ := opt.Run(reqs, slots)
				if want := paidBy(reqs, cost, there); least != want {
					t.Fatalf("Least(%v, %v, %d): got %d, want %d", reqs, cost, slots, least, want)
				}
			}
		}
	}
}

func TestMoreSlotsAreNoWorse(t *testing.T) {
	for seed := range 300 {
		reqs, cost := long(seed)
		fewer := math.MaxInt
		for slots := 1; slots <= api.MaxSlots; slots++ {
			least, _ := landlord.Least(reqs, cost, slots)
			if least > fewer {
				t.Fatalf("Least(%v, %v, %d): %d, though one slot fewer tells %d", reqs, cost, slots, least, fewer)
			}
			fewer = least
		}
	}
}

func TestListsAreLeftAlone(t *testing.T) {
	cases := []struct {
		name       string
		reqs, cost []int
		slots      int
	}{
		{"well", []int{2, 0, 1, 2, 0}, []int{3, 4, 5}, 2},
		{"one slot", []int{2, 0, 1, 2}, []int{3, 4, 5}, 1},
		{"slots are left", []int{2, 0, 1, 2}, []int{3, 4, 5}, 8},
		{"no request", nil, []int{3, 4, 5}, 2},
		{"nothing", nil, nil, 2},
		{"MaxReqs requests", around(api.MaxReqs, api.MaxFew), []int{1, 2, 3, 4, 5, 6}, 3},
		{"ErrFull by requests", around(api.MaxReqs+1, 3), []int{3, 4, 5}, 2},
		{"ErrFull by costs", []int{2, 0}, same(api.MaxFew+1, 3), 2},
		{"ErrRange by a cost", []int{2, 0, 1}, []int{3, 4, 21}, 2},
		{"ErrRange by a page", []int{2, 0, 3}, []int{3, 4, 5}, 2},
		{"ErrRange by slots", []int{2, 0, 1}, []int{3, 4, 5}, 0},
	}
	for _, c := range cases {
		t.Run(c.name, func(t *testing.T) {
			wholeReqs := append(slices.Clone(c.reqs), 11, 12, 13)
			wholeCost := append(slices.Clone(c.cost), 14, 15, 16)
			wasReqs, wasCost := slices.Clone(wholeReqs), slices.Clone(wholeCost)
			reqs, cost := wholeReqs[:len(c.reqs)], wholeCost[:len(c.cost)]
			landlord.Check(reqs, cost, c.slots)
			landlord.Least(reqs, cost, c.slots)
			_, pages, credits, _ := landlord.Run(reqs, cost, c.slots)
			for _, list := range [][]int{pages[:cap(pages)], credits[:cap(credits)]} {
				for i := range list {
					list[i] = -7
				}
			}
			if !slices.Equal(wholeReqs, wasReqs) || !slices.Equal(wholeCost, wasCost) {
				t.Errorf("the lists were %v %v, are %v %v", wasReqs, wasCost, wholeReqs, wholeCost)
			}
		})
	}
}

func TestBehindTheLengthNothingIsRead(t *testing.T) {
	reqs, cost := []int{1, 0, 1, 99, -1}, []int{3, 4, 99, -1}
	for _, c := range []struct {
		reqs, cost []int
		want       string
	}{
		{reqs[:3], cost[:2], "<nil> 11 [1] [4] <nil> 11 <nil>"},
		{reqs[:2], cost[:2], "<nil> 7 [0] [3] <nil> 7 <nil>"},
		{reqs[:0], cost[:2], "<nil> 0 [] [] <nil> 0 <nil>"},
		{reqs[:0], cost[:0], "<nil> 0 [] [] <nil> 0 <nil>"},
		{reqs[:2], cost[:1], "ErrRange 0 [] [] ErrRange 0 ErrRange"},
	} {
		if got := answers(c.reqs, c.cost, 1); got != c.want {
			t.Errorf("%v, %v: got %s, want %s", c.reqs, c.cost, got, c.want)
		}
	}
}

// answers writes what all calls answer.
func answers(reqs, cost []int, slots int) string {
	check := landlord.Check(reqs, cost, slots)
	paid, pages, credits, err := landlord.Run(reqs, cost, slots)
	least, also := landlord.Least(reqs, cost, slots)
	return fmt.Sprintf("%v %d %v %v %v %d %v", check, paid, pages, credits, err, least, also)
}

func TestAnswersAreTheCallers(t *testing.T) {
	reqs, cost := []int{2, 0, 1, 2}, []int{3, 4, 5}
	_, otherPages, otherCredits, _ := landlord.Run(reqs, cost, 2)
	_, pages, credits, _ := landlord.Run(reqs, cost, 2)
	wantPages, wantCredits := slices.Clone(pages), slices.Clone(credits)
	for _, list := range [][]int{otherPages[:cap(otherPages)], otherCredits[:cap(otherCredits)], reqs, cost} {
		for i := range list {
			list[i] = -7
		}
	}
	if !slices.Equal(pages, wantPages) || !slices.Equal(credits, wantCredits) {
		t.Errorf("an answer shares memory: %v %v, want %v %v", pages, credits, wantPages, wantCredits)
	}
	wide := pages[:cap(pages)]
	for i := range wide {
		wide[i] = -8
	}
	if !slices.Equal(credits, wantCredits) {
		t.Errorf("the lists of one answer share memory: %v, want %v", credits, wantCredits)
	}
}

func TestNothingIsKeptBetweenCalls(t *testing.T) {
	reqs, cost := []int{2, 0, 1, 2, 0}, []int{3, 4, 5}
	want := answers(reqs, cost, 2)
	for _, other := range [][]int{{0, 1, 0}, {2, 3}, {-1, 0}, around(api.MaxReqs+1, 3)} {
		for _, price := range [][]int{{3, 4, 5}, {5, 0, 1, 2}, {-1}, same(7, 1)} {
			for _, slots := range []int{0, 1, 3, api.MaxSlots} {
				answers(other, price, slots)
				if got := answers(reqs, cost, 2); got != want {
					t.Errorf("behind %v, %v, %d got %s, want %s", other, price, slots, got, want)
				}
			}
		}
	}
}
