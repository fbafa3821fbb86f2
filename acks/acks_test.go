package acks_test

import (
	"fmt"
	"math"
	"slices"
	"testing"

	"larderwick/acks"
	"larderwick/api"
	"larderwick/plain"
)

// every gives times, so many, each so much behind the one ahead, the first one at 0.
func every(many, gap int) []int {
	times := make([]int, many)
	for i := range times {
		times[i] = i * gap
	}
	return times
}

// with gives a copy of a list in which one time is another.
func with(list []int, at, time int) []int {
	changed := slices.Clone(list)
	changed[at] = time
	return changed
}

// same gives a list of so many times one time.
func same(many, time int) []int {
	return slices.Repeat([]int{time}, many)
}

func TestRunAndLeast(t *testing.T) {
	cases := []struct {
		name        string
		times       []int
		price       int
		told        []int
		paid, least int
	}{
		{"nil, no message", nil, 1, nil, 0, 0},
		{"empty, no message", []int{}, api.MaxCost, nil, 0, 0},
		{"one message, for 1", []int{0}, 1, []int{1}, 2, 1},
		{"one message, for MaxCost", []int{0}, api.MaxCost, []int{20}, 40, 20},
		{"one message, later", []int{7}, 5, []int{12}, 10, 5},
		{"one message, at MaxTime: told behind it", []int{api.MaxTime}, 5, []int{1005}, 10, 5},
		{"one message, at MaxTime, for MaxCost", []int{api.MaxTime}, api.MaxCost, []int{1020}, 40, 20},
		{"two at once wait exactly as long as the price", []int{3, 3}, 4, []int{5}, 8, 4},
		{"two at once wait less: a time more would be too much", []int{3, 3}, 5, []int{5}, 9, 5},
		{"as many at once as the price", same(4, 9), 4, []int{10}, 8, 4},
		{"more at once than the price: none waits", same(5, 9), 4, []int{9}, 4, 4},
		{"more at once, at 0", same(2, 0), 1, []int{0}, 1, 1},
		{"MaxMsgs at once, for MaxCost", same(api.MaxMsgs, 0), api.MaxCost, []int{1}, 40, 20},
		{"MaxMsgs at once, for a bit less", same(api.MaxMsgs, 0), api.MaxCost - 1, []int{0}, 19, 19},
		{"MaxMsgs at once, at MaxTime", same(api.MaxMsgs, api.MaxTime), 3, []int{1000}, 3, 3},
		{"the second comes as it is told: told with it", []int{0, 5}, 5, []int{5}, 10, 10},
		{"two come as it is told", []int{0, 5, 5}, 5, []int{5}, 10, 10},
		{"more come as it is told than the price", []int{0, 2, 2, 2, 2}, 2, []int{2}, 4, 4},
		{"the second comes a time ahead: it is told in time", []int{0, 4}, 5, []int{4}, 9, 9},
		{"the second comes a time ahead, and may wait", []int{0, 4}, 6, []int{5}, 12, 10},
		{"the second comes a time behind: told on its own", []int{0, 6}, 5, []int{5, 11}, 20, 10},
		{"what waited starts afresh behind telling", []int{0, 3, 4}, 3, []int{3, 7}, 12, 7},
		{"the middle one goes with the first", []int{0, 1, 4}, 3, []int{2, 7}, 12, 7},
		{"the middle one goes with the last", []int{0, 3, 4}, 2, []int{2, 4}, 7, 5},
		{"as good together as apart", []int{0, 7}, 7, []int{7}, 14, 14},
		{"a rush, and one far behind", []int{0, 1, 1, 2, 900}, 4, []int{2, 904}, 16, 12},
		{"one far ahead, and a rush", []int{0, 900, 900, 900, 901}, 4, []int{4, 901}, 15, 11},
		{"one by one, for 1", every(5, 1), 1, []int{1, 3, 5}, 6, 5},
		{"one by one, for 2", every(6, 1), 2, []int{1, 3, 5}, 9, 9},
		{"one by one, for 3", every(6, 1), 3, []int{2, 5}, 12, 12},
		{"far apart, nearly up to MaxTime", every(4, 333), 20, []int{20, 353, 686, 1019}, 160, 80},
		{"MaxMsgs, apart by the price", every(api.MaxMsgs, 20), 20, []int{20, 60, 100, 140, 180, 220, 260, 300, 340, 380}, 400, 400},
		{"from the first time to the last", []int{0, api.MaxTime}, 1, []int{1, 1001}, 4, 2},
	}
	for _, c := range cases {
		t.Run(c.name, func(t *testing.T) {
			if err := acks.Check(c.times, c.price); err != nil {
				t.Errorf("Check told %v", err)
			}
			told, paid, err := acks.Run(c.times, c.price)
			if err != nil || paid != c.paid || !slices.Equal(told, c.told) {
				t.Errorf("Run: got %v %d %v, want %v %d", told, paid, err, c.told, c.paid)
			}
			least, err := acks.Least(c.times, c.price)
			if err != nil || least != c.least {
				t.Errorf("Least: got %d %v, want %d", least, err, c.least)
			}
		})
	}
}

func TestFaults(t *testing.T) {
	full := every(api.MaxMsgs, 3)
	over := every(api.MaxMsgs+1, 3)
	cases := []struct {
		name  string
		times []int
		price int
		want  api.Errno
	}{
		{"MaxMsgs messages", full, 5, api.OK},
		{"one message more", over, 5, api.ErrFull},
		{"one message more, all at once", same(api.MaxMsgs+1, 4), 5, api.ErrFull},
		{"far too many messages", every(1_000, 1), 5, api.ErrFull},
		{"the time 0", []int{0}, 5, api.OK},
		{"a time below 0", []int{-1}, 5, api.ErrRange},
		{"a time below 0, and others", []int{-1, 0, 7}, 5, api.ErrRange},
		{"MaxTime", []int{api.MaxTime}, 5, api.OK},
		{"a time behind MaxTime", []int{api.MaxTime + 1}, 5, api.ErrRange},
		{"the first number", []int{math.MinInt}, 5, api.ErrRange},
		{"the last number", []int{math.MaxInt}, 5, api.ErrRange},
		{"from the first number to the last", []int{math.MinInt, math.MaxInt}, 5, api.ErrRange},
		{"only the first is below 0", with(full, 0, -1), 5, api.ErrRange},
		{"only the last is behind MaxTime", with(full, api.MaxMsgs-1, api.MaxTime+1), 5, api.ErrRange},
		{"price 1", full, 1, api.OK},
		{"price MaxCost", full, api.MaxCost, api.OK},
		{"price 0", full, 0, api.ErrRange},
		{"price 0, no message", nil, 0, api.ErrRange},
		{"price below 0", full, -1, api.ErrRange},
		{"price above MaxCost", full, api.MaxCost + 1, api.ErrRange},
		{"price above MaxCost, no message", nil, api.MaxCost + 1, api.ErrRange},
		{"the least price", full, math.MinInt, api.ErrRange},
		{"the greatest price", full, math.MaxInt, api.ErrRange},
		{"the same time", []int{4, 4}, 5, api.OK},
		{"a time less than the one ahead", []int{4, 3}, 5, api.ErrClash},
		{"from the last time to the first", []int{api.MaxTime, 0}, 5, api.ErrClash},
		{"only the second is less", with(full, 0, 4), 5, api.ErrClash},
		{"only the middle one is less", with(full, 10, 26), 5, api.ErrClash},
		{"only the last is less", with(full, api.MaxMsgs-1, 53), 5, api.ErrClash},
		{"less than the one ahead, not than the first", []int{1, 9, 5}, 5, api.ErrClash},
		{"too many, and a time below 0", with(over, 0, -1), 5, api.ErrFull},
		{"too many, and the last behind MaxTime", with(over, api.MaxMsgs, api.MaxTime+1), 5, api.ErrFull},
		{"too many, and price 0", over, 0, api.ErrFull},
		{"too many, and one is less", with(over, 10, 26), 5, api.ErrFull},
		{"too many, and all else", with(over, 10, -1), 0, api.ErrFull},
		{"a time and the price", []int{-1, 4}, 0, api.ErrRange},
		{"a time behind MaxTime, then one that is less", []int{api.MaxTime + 1, 4}, 5, api.ErrRange},
		{"a time below 0, and so less", []int{4, -1}, 5, api.ErrRange},
		{"one is less, then a time below 0", []int{9, 4, -1}, 5, api.ErrRange},
		{"one is less, then a time behind MaxTime", []int{9, 4, api.MaxTime + 1}, 5, api.ErrRange},
		{"one is less, and price 0", []int{9, 4}, 0, api.ErrRange},
		{"one is less, and price above MaxCost", []int{9, 4}, api.MaxCost + 1, api.ErrRange},
	}
	for _, c := range cases {
		t.Run(c.name, func(t *testing.T) {
			if got := plain.Told(acks.Check(c.times, c.price)); got != c.want {
				t.Errorf("Check told %v, want %v", got, c.want)
			}
			told, paid, err := acks.Run(c.times, c.price)
			if got := plain.Told(err); got != c.want {
				t.Errorf("Run told %v, want %v", got, c.want)
			}
			least, err := acks.Least(c.times, c.price)
			if got := plain.Told(err); got != c.want {
				t.Errorf("Least told %v, want %v", got, c.want)
			}
			if c.want != api.OK && (len(told) != 0 || paid != 0 || least != 0) {
				t.Errorf("beside an error told %v %d, %d", told, paid, least)
			}
		})
	}
}

// waits tells how long messages have waited at a time, together, of those that came up to it and behind another.
func waits(times []int, behind, now int) int {
	sum := 0
	for _, time := range times {
		if behind < time && time <= now {
			sum += now - time
		}
	}
	return sum
}

// byWords goes by the words of the promise: it looks for each time of telling among all that there are, from the last one back.
func byWords(times []int, price int) (told []int, paid int) {
	last := -1
	for len(times) > 0 && last < times[len(times)-1] {
		now := api.MaxTime + api.MaxCost + 1
		for waits(times, last, now) > price {
			now--
		}
		told = append(told, now)
		paid += price + waits(times, last, now)
		last = now
	}
	return told, paid
}

// byClock goes on from one time to the next, and tells where going on would make those that wait too dear.
func byClock(times []int, price int) (told []int, paid int) {
	there, waited := 0, 0
	for now, next := 0, 0; next < len(times) || there > 0; now++ {
		for next < len(times) && times[next] == now {
			there, next = there+1, next+1
		}
		if waited+there > price {
			told = append(told, now)
			paid += price + waited
			there, waited = 0, 0
		}
		waited += there
	}
	return told, paid
}

// fromTheEnd finds the least cost from the last message back to the first: of each one what it costs from it on, with whichever is the last one that is told along with it.
func fromTheEnd(times []int, price int) int {
	costs := make([]int, len(times)+1)
	for from := len(times) - 1; from >= 0; from-- {
		costs[from] = math.MaxInt
		for last := from; last < len(times); last++ {
			cost := price + costs[last+1]
			for _, time := range times[from : last+1] {
				cost += times[last] - time
			}
			costs[from] = min(costs[from], cost)
		}
	}
	return costs[0]
}

// atAnyTimes finds the least cost over all sets of times up to a last one, at which it may be told.
func atAnyTimes(times []int, price, last int) int {
	best := math.MaxInt
	for set := range 1 << (last + 1) {
		told, paid := -1, 0
		for now := range last + 1 {
			if set>>now&1 == 1 {
				paid += price + waits(times, told, now)
				told = now
			}
		}
		if len(times) == 0 || told >= times[len(times)-1] {
			best = min(best, paid)
		}
	}
	return best
}

// compare holds Run against byClock, and Least against fromTheEnd.
func compare(t *testing.T, times []int, price int) {
	t.Helper()
	wantTold, wantPaid := byClock(times, price)
	told, paid, err := acks.Run(times, price)
	if err != nil || paid != wantPaid || !slices.Equal(told, wantTold) {
		t.Fatalf("Run(%v, %d): got %v %d %v, want %v %d", times, price, told, paid, err, wantTold, wantPaid)
	}
	least, err := acks.Least(times, price)
	if want := fromTheEnd(times, price); err != nil || least != want {
		t.Fatalf("Least(%v, %d): got %d %v, want %d", times, price, least, err, want)
	}
}

// rising gives all lists of up to so many times below a bound, none of which is less than the one ahead.
func rising(most, below int) [][]int {
	all := [][]int{nil}
	for from := 0; most > 0; most-- {
		till := len(all)
		for ; from < till; from++ {
			first := 0
			if many := len(all[from]); many > 0 {
				first = all[from][many-1]
			}
			for time := first; time < below; time++ {
				all = append(all, append(slices.Clone(all[from]), time))
			}
		}
	}
	return all
}

func TestAllSmall(t *testing.T) {
	for _, size := range [][2]int{{3, 24}, {4, 11}, {6, 5}} {
		for _, times := range rising(size[0], size[1]) {
			for price := 1; price <= api.MaxCost; price++ {
				compare(t, times, price)
			}
		}
	}
}

func TestLeastAtAnyTimes(t *testing.T) {
	for _, times := range rising(4, 6) {
		for price := 1; price <= 12; price++ {
			least, err := acks.Least(times, price)
			if want := atAnyTimes(times, price, 6); err != nil || least != want {
				t.Fatalf("Least(%v, %d): got %d %v, want %d", times, price, least, err, want)
			}
		}
	}
}

// scattered gives numbers that jump about below a bound, the same ones for the same seed.
func scattered(seed, many, below int) []int {
	list := make([]int, many)
	state := uint64(seed) + 1
	for i := range list {
		state = state*6364136223846793005 + 1442695040888963407
		list[i] = int(state >> 33 % uint64(below))
	}
	return list
}

// long gives times, as many as there may be or some fewer, and a price: of some seeds they lie near each other, of others far apart, of others in rushes, and of some they go on to MaxTime.
func long(seed int) (times []int, price int) {
	price = 1 + seed%api.MaxCost
	times = scattered(seed, api.MaxMsgs-seed%3, []int{15, 60, 250, api.MaxTime + 1}[seed/20%4])
	for i := range times {
		switch seed / 80 % 3 {
		case 1:
			times[i] -= times[i] % 9
		case 2:
			times[i] = api.MaxTime - times[i]
		}
	}
	slices.Sort(times)
	return times, price
}

func TestLong(t *testing.T) {
	for seed := range 2_400 {
		times, price := long(seed)
		compare(t, times, price)
	}
}

func TestRunByTheWords(t *testing.T) {
	lists := rising(3, 5)
	for seed := range 240 {
		times, _ := long(seed)
		lists = append(lists, times)
	}
	for i, times := range lists {
		for _, price := range []int{1, 2 + i%(api.MaxCost-2), api.MaxCost} {
			wantTold, wantPaid := byWords(times, price)
			told, paid, err := acks.Run(times, price)
			if err != nil || paid != wantPaid || !slices.Equal(told, wantTold) {
				t.Fatalf("Run(%v, %d): got %v %d %v, want %v %d", times, price, told, paid, err, wantTold, wantPaid)
			}
		}
	}
}

// Whoever tells when waiting was as dear pays no more than twice the least: up to each time of telling, and behind the one ahead, the least either tells, or has all that came wait for more than the price. And the least is no more than to tell each message, or all with the last one.
func TestRunIsNotMuchWorse(t *testing.T) {
	for seed := range 2_400 {
		times, price := long(seed)
		told, paid, _ := acks.Run(times, price)
		least, _ := acks.Least(times, price)
		each, all := len(times)*price, price+waits(times, -1, times[len(times)-1])
		if least < len(told)*price || least > min(paid, each, all) || paid > 2*least {
			t.Fatalf("%v, %d: the least is %d, told at %v for %d, each for %d, all for %d", times, price, least, told, paid, each, all)
		}
	}
}

// When the first message comes does not matter for what it costs.
func TestAllLaterIsToldLater(t *testing.T) {
	for seed := range 80 {
		times, price := long(seed)
		told, paid, _ := acks.Run(times, price)
		least, _ := acks.Least(times, price)
		for _, later := range []int{1, api.MaxTime - times[len(times)-1]} {
			if later+times[len(times)-1] > api.MaxTime {
				continue
			}
			want := fmt.Sprintf("<nil> %v %d <nil> %d <nil>", plus(told, later), paid, least)
			if got := answers(plus(times, later), price); got != want {
				t.Fatalf("%v, %d, later by %d: got %s, want %s", times, price, later, got, want)
			}
		}
	}
}

// plus gives times that are all later by as much.
func plus(times []int, later int) []int {
	moved := slices.Clone(times)
	for i := range moved {
		moved[i] += later
	}
	return moved
}

// answers writes what all calls answer.
func answers(times []int, price int) string {
	check := acks.Check(times, price)
	told, paid, first := acks.Run(times, price)
	least, second := acks.Least(times, price)
	return fmt.Sprintf("%v %v %d %v %d %v", check, told, paid, first, least, second)
}

func TestListsAreLeftAlone(t *testing.T) {
	cases := []struct {
		name  string
		times []int
		price int
	}{
		{"well", []int{0, 1, 4, 9, 9}, 3},
		{"told each at once", []int{2, 2, 5, 5}, 1},
		{"no message", nil, 5},
		{"MaxMsgs messages", every(api.MaxMsgs, 4), 7},
		{"ErrFull", every(api.MaxMsgs+1, 4), 7},
		{"ErrRange by a time", []int{4, 9, api.MaxTime + 1}, 7},
		{"ErrRange by the price", []int{4, 9}, 0},
		{"ErrClash", []int{4, 9, 2}, 7},
	}
	for _, c := range cases {
		t.Run(c.name, func(t *testing.T) {
			whole := append(slices.Clone(c.times), 11, 12, 13)
			was := slices.Clone(whole)
			times := whole[:len(c.times)]
			acks.Check(times, c.price)
			acks.Least(times, c.price)
			told, _, _ := acks.Run(times, c.price)
			wide := told[:cap(told)]
			for i := range wide {
				wide[i] = -7
			}
			if !slices.Equal(whole, was) {
				t.Errorf("the list was %v, is %v", was, whole)
			}
		})
	}
}

func TestBehindTheLengthNothingIsRead(t *testing.T) {
	times := []int{0, 1, 4, 2, -1, api.MaxTime + 1}
	for _, c := range []struct {
		many int
		want string
	}{
		{3, "<nil> [2 7] 12 <nil> 7 <nil>"},
		{2, "<nil> [2] 6 <nil> 4 <nil>"},
		{1, "<nil> [3] 6 <nil> 3 <nil>"},
		{0, "<nil> [] 0 <nil> 0 <nil>"},
		{4, "ErrClash [] 0 ErrClash 0 ErrClash"},
		{5, "ErrRange [] 0 ErrRange 0 ErrRange"},
	} {
		if got := answers(times[:c.many], 3); got != c.want {
			t.Errorf("%v: got %s, want %s", times[:c.many], got, c.want)
		}
	}
}

func TestAnswersAreTheCallers(t *testing.T) {
	for _, times := range [][]int{{0}, {2, 2, 5, 5}, {0, 1, 4, 9, 9}, every(api.MaxMsgs, 4)} {
		for _, price := range []int{1, 3, api.MaxCost} {
			handed := slices.Clone(times)
			other, _, _ := acks.Run(handed, price)
			told, _, _ := acks.Run(handed, price)
			want := slices.Clone(told)
			for _, written := range [][]int{other[:cap(other)], handed} {
				for i := range written {
					written[i] = -7
				}
			}
			if !slices.Equal(told, want) {
				t.Errorf("an answer shares memory: %v, want %v", told, want)
			}
			if again, _, _ := acks.Run(times, price); !slices.Equal(again, want) {
				t.Errorf("an answer is kept: %v, want %v", again, want)
			}
		}
	}
}

func TestNothingIsKeptBetweenCalls(t *testing.T) {
	times := []int{0, 1, 4, 9, 9}
	want := answers(times, 3)
	for _, other := range [][]int{nil, {0, 1, 5}, {7, 3}, {-1, 0}, every(api.MaxMsgs+1, 3)} {
		for _, price := range []int{0, 1, 3, api.MaxCost, api.MaxCost + 1} {
			answers(other, price)
			if got := answers(times, 3); got != want {
				t.Errorf("behind %v, %d got %s, want %s", other, price, got, want)
			}
		}
	}
}
