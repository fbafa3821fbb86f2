package buddy_test

import (
	"fmt"
	"math"
	"slices"
	"strings"
	"testing"

	"larderwick/api"
	"larderwick/buddy"
	"larderwick/plain"
)

const places = 1 << api.MaxOrder

// step asks an arena for a block, or gives one back.
type step struct {
	back   bool
	number int // the order that is asked for, or where the block begins
}

func lend(order int) step { return step{false, order} }

func back(at int) step { return step{true, at} }

// lends asks for a block of each order.
func lends(orders ...int) []step {
	var steps []step
	for _, order := range orders {
		steps = append(steps, lend(order))
	}
	return steps
}

// backs gives back the block at each place.
func backs(at ...int) []step {
	var steps []step
	for _, place := range at {
		steps = append(steps, back(place))
	}
	return steps
}

// same asks for so many blocks of one order.
func same(many, order int) []step {
	return slices.Repeat([]step{lend(order)}, many)
}

// taker is whatever lends blocks.
type taker interface {
	Lend(order int) (int, error)
	Back(at int) error
}

// take goes a step, and writes what is told.
func take(a taker, s step) string {
	if s.back {
		return "back " + plain.Told(a.Back(s.number)).Error()
	}
	at, err := a.Lend(s.number)
	return fmt.Sprint(at, " ", plain.Told(err))
}

// all goes one step behind the other, and writes what is told.
func all(a taker, steps []step) string {
	var told []string
	for _, s := range steps {
		told = append(told, take(a, s))
	}
	return strings.Join(told, ", ")
}

// stands writes which blocks are lent, each with its order, and those that are free, order by order.
func stands(a *buddy.Arena) string {
	var text strings.Builder
	at, orders := a.Lent()
	fmt.Fprintf(&text, "%v%v free", at, orders)
	for order := range api.MaxOrder + 1 {
		fmt.Fprint(&text, a.Free(order))
	}
	return text.String()
}

const fresh = "[][] free[][][][][][][0]"

func TestNew(t *testing.T) {
	if got := stands(buddy.New()); got != fresh {
		t.Errorf("got %s, want %s", got, fresh)
	}
}

func TestLendAndBack(t *testing.T) {
	cases := []struct {
		name        string
		steps       []step
		told, after string
	}{
		{"order 0: halved all the way", lends(0), "0 OK", "[0][0] free[1][2][4][8][16][32][]"},
		{"order 3: halved as far as asked for", lends(3), "0 OK", "[0][3] free[][][][8][16][32][]"},
		{"order 5: halved once", lends(5), "0 OK", "[0][5] free[][][][][][32][]"},
		{"order 6: not halved", lends(6), "0 OK", "[0][6] free[][][][][][][]"},
		{"one of that order is free: nothing is halved", lends(0, 0), "0 OK, 1 OK", "[0 1][0 0] free[][2][4][8][16][32][]"},
		{"the least order that has one, not the first place", append(lends(3, 0, 3), append(backs(0), lend(1))...), "0 OK, 8 OK, 16 OK, back OK, 10 OK", "[8 10 16][0 1 3] free[9][][12][0 24][][32][]"},
		{"the least order not below, though one below is free", lends(0, 4), "0 OK, 16 OK", "[0 16][0 4] free[1][2][4][8][][32][]"},
		{"the first one of that order", append(same(8, 3), append(backs(40, 8, 56, 24), lend(3))...), "0 OK, 8 OK, 16 OK, 24 OK, 32 OK, 40 OK, 48 OK, 56 OK, back OK, back OK, back OK, back OK, 8 OK", "[0 8 16 32 48][3 3 3 3 3] free[][][][24 40 56][][][]"},
		{"the first one of that order is halved", append(same(8, 3), append(backs(40, 8), lend(1))...), "0 OK, 8 OK, 16 OK, 24 OK, 32 OK, 40 OK, 48 OK, 56 OK, back OK, back OK, 8 OK", "[0 8 16 24 32 48 56][3 1 3 3 3 3 3] free[][10][12][40][][][]"},
		{"rising orders", lends(0, 1, 2, 3, 4, 5), "0 OK, 2 OK, 4 OK, 8 OK, 16 OK, 32 OK", "[0 2 4 8 16 32][0 1 2 3 4 5] free[1][][][][][][]"},
		{"falling orders", lends(5, 4, 3, 2, 1, 0, 0), "0 OK, 32 OK, 48 OK, 56 OK, 60 OK, 62 OK, 63 OK", "[0 32 48 56 60 62 63][5 4 3 2 1 0 0] free[][][][][][][]"},
		{"order 6, back", append(lends(6), back(0)), "0 OK, back OK", fresh},
		{"order 6, back, and again", []step{lend(6), back(0), lend(6)}, "0 OK, back OK, 0 OK", "[0][6] free[][][][][][][]"},
		{"order 0, back: one again, all the way", []step{lend(0), back(0)}, "0 OK, back OK", fresh},
		{"the other half is lent: it stays a half", append(lends(0, 0), back(0)), "0 OK, 1 OK, back OK", "[1][0] free[0][2][4][8][16][32][]"},
		{"the second half: it stays one too", append(lends(0, 0), back(1)), "0 OK, 1 OK, back OK", "[0][0] free[1][2][4][8][16][32][]"},
		{"the first half, then the second", append(lends(0, 0), backs(0, 1)...), "0 OK, 1 OK, back OK, back OK", fresh},
		{"the second half, then the first", append(lends(0, 0), backs(1, 0)...), "0 OK, 1 OK, back OK, back OK", fresh},
		{"neighbours of two blocks are not halves of one", append(lends(0, 0, 0, 0), backs(1, 2)...), "0 OK, 1 OK, 2 OK, 3 OK, back OK, back OK", "[0 3][0 0] free[1 2][][4][8][16][32][]"},
		{"a part of the other half is lent", append(lends(1, 0), back(0)), "0 OK, 2 OK, back OK", "[2][0] free[3][0][4][8][16][32][]"},
		{"one with the half, not with the next one", append(lends(0, 0, 1), backs(0, 1)...), "0 OK, 1 OK, 2 OK, back OK, back OK", "[2][1] free[][0][4][8][16][32][]"},
		{"one some times, and no more", append(lends(0, 5), back(0)), "0 OK, 32 OK, back OK", "[32][5] free[][][][][][0][]"},
		{"one with what lies below it, and so begins there", append(lends(3, 3, 4), backs(0, 8)...), "0 OK, 8 OK, 16 OK, back OK, back OK", "[16][4] free[][][][][0][32][]"},
		{"the last places are one again", append(same(2, 5), back(32), lend(4), lend(4), back(48)), "0 OK, 32 OK, back OK, 32 OK, 48 OK, back OK", "[0 32][5 4] free[][][][][48][][]"},
		{"what is given back is lent again, of another order", []step{lend(2), lend(2), back(0), lend(1), lend(0), lend(0)}, "0 OK, 4 OK, back OK, 0 OK, 2 OK, 3 OK", "[0 2 3 4][1 0 0 2] free[][][][8][16][32][]"},
		{"full, but for a block that was given back", append(same(4, 4), back(16), lend(5), lend(4)), "0 OK, 16 OK, 32 OK, 48 OK, back OK, 0 ErrFull, 16 OK", "[0 16 32 48][4 4 4 4] free[][][][][][][]"},
	}
	for _, c := range cases {
		t.Run(c.name, func(t *testing.T) {
			a := buddy.New()
			if got := all(a, c.steps); got != c.told {
				t.Errorf("told %s, want %s", got, c.told)
			}
			if got := stands(a); got != c.after {
				t.Errorf("stands %s, want %s", got, c.after)
			}
		})
	}
}

// wrong numbers are no order, and no place.
var wrong = []int{-1, -2, -places, math.MinInt, math.MinInt + 1, math.MaxInt, math.MaxInt - 1, places, places + 1, 1 << 32, -1 << 32}

func TestFaults(t *testing.T) {
	one := func(at int) []int { return []int{at} }
	cases := []struct {
		name   string
		steps  []step
		back   bool
		number []int
		want   api.Errno
	}{
		{"no order, at first", nil, false, append(one(api.MaxOrder+1), wrong...), api.ErrRange},
		{"no order, while some are lent", lends(0, 3, 2), false, append(one(api.MaxOrder+1), wrong...), api.ErrRange},
		{"no order, while all is lent: ErrRange is told, not ErrFull", lends(6), false, append(one(api.MaxOrder+1), wrong...), api.ErrRange},
		{"all is lent, at once", lends(6), false, []int{0, 1, 2, 3, 4, 5, 6}, api.ErrFull},
		{"all is lent, one by one", same(places, 0), false, []int{0, 1, 2, 3, 4, 5, 6}, api.ErrFull},
		{"one is lent", lends(0), false, one(6), api.ErrFull},
		{"one half is lent", lends(5), false, one(6), api.ErrFull},
		{"both halves have some", append(lends(4, 4, 4), back(16)), false, []int{5, 6}, api.ErrFull},
		{"all places but one are lent", append(same(places, 0), back(63)), false, []int{1, 2, 3, 4, 5, 6}, api.ErrFull},
		{"two neighbours are free, not of one block", append(same(places, 0), backs(1, 2)...), false, []int{1, 2, 3, 4, 5, 6}, api.ErrFull},
		{"every second place is free", append(same(places, 0), backs(odds()...)...), false, []int{1, 2, 3, 4, 5, 6}, api.ErrFull},
		{"nothing is lent", nil, true, append([]int{0, 1, 32, 63}, wrong...), api.ErrNone},
		{"all is lent, but not from there on", lends(6), true, append([]int{1, 2, 31, 32, 33, 63}, wrong...), api.ErrNone},
		{"within a block, and where free ones begin", lends(2, 1), true, append([]int{1, 2, 3, 5, 6, 8, 16, 32, 48, 63}, wrong...), api.ErrNone},
		{"given back once", []step{lend(2), lend(2), back(4)}, true, []int{4, 5, 8}, api.ErrNone},
		{"given back once, and one with others", []step{lend(0), back(0)}, true, []int{0, 1, 2}, api.ErrNone},
		{"where blocks began once", append(lends(0, 0, 0), append(backs(0, 1, 2), lend(4))...), true, []int{1, 2, 3}, api.ErrNone},
	}
	for _, c := range cases {
		for _, number := range c.number {
			t.Run(fmt.Sprint(c.name, ": ", number), func(t *testing.T) {
				a := buddy.New()
				all(a, c.steps)
				was := stands(a)
				want := fmt.Sprint("0 ", c.want)
				if c.back {
					want = "back " + c.want.Error()
				}
				for range 2 {
					if got := take(a, step{c.back, number}); got != want {
						t.Errorf("told %s, want %s", got, want)
					}
					if got := stands(a); got != was {
						t.Errorf("stood %s, stands %s", was, got)
					}
				}
			})
		}
	}
}

// odds gives the places whose numbers are odd.
func odds() []int {
	var at []int
	for place := 1; place < places; place += 2 {
		at = append(at, place)
	}
	return at
}

func TestFreeOfNoOrder(t *testing.T) {
	for _, steps := range [][]step{nil, lends(0), lends(6), lends(2, 5, 0)} {
		a := buddy.New()
		all(a, steps)
		for _, order := range append([]int{api.MaxOrder + 1}, wrong...) {
			if at := a.Free(order); len(at) != 0 {
				t.Errorf("behind %v, Free(%d): got %v", steps, order, at)
			}
		}
	}
}

// cover knows the blocks that are lent, and nothing else: the free blocks are the greatest ones in which no place is lent, since two free halves are always one.
type cover struct {
	at, orders []int
}

// taken tells of each place whether it is in a block that is lent.
func (c *cover) taken() (list [places]bool) {
	for i, at := range c.at {
		for place := range 1 << c.orders[i] {
			list[at+place] = true
		}
	}
	return list
}

// free tells where the greatest free blocks begin, by their orders.
func (c *cover) free() (all [api.MaxOrder + 1][]int) {
	taken := c.taken()
	for place := 0; place < places; {
		order := 0
		for order <= api.MaxOrder && place%(1<<order) == 0 && !slices.Contains(taken[place:place+1<<order], true) {
			order++
		}
		if order == 0 {
			place++
			continue
		}
		all[order-1] = append(all[order-1], place)
		place += 1 << (order - 1)
	}
	return all
}

func (c *cover) Lend(order int) (int, error) {
	if order < 0 || order > api.MaxOrder {
		return 0, api.ErrRange
	}
	free := c.free()
	for _, at := range free[order:] {
		if len(at) > 0 {
			i, _ := slices.BinarySearch(c.at, at[0])
			c.at, c.orders = slices.Insert(c.at, i, at[0]), slices.Insert(c.orders, i, order)
			return at[0], nil
		}
	}
	return 0, api.ErrFull
}

func (c *cover) Back(at int) error {
	i := slices.Index(c.at, at)
	if i < 0 {
		return api.ErrNone
	}
	c.at, c.orders = slices.Delete(c.at, i, i+1), slices.Delete(c.orders, i, i+1)
	return nil
}

// stands writes what stands writes of an arena.
func (c *cover) stands() string {
	text := fmt.Sprintf("%v%v free", c.at, c.orders)
	for _, at := range c.free() {
		text += fmt.Sprint(at)
	}
	return text
}

// clone gives a cover that shares nothing with the first one.
func (c *cover) clone() *cover {
	return &cover{slices.Clone(c.at), slices.Clone(c.orders)}
}

// compare goes all steps with a new arena, and holds the last one, and how all stands then, against a cover that went the others.
func compare(t *testing.T, c *cover, steps []step) {
	t.Helper()
	a := buddy.New()
	last := len(steps) - 1
	all(a, steps[:last])
	want := take(c, steps[last])
	if got := take(a, steps[last]); got != want {
		t.Fatalf("%v: the last step told %s, want %s", steps, got, want)
	}
	if got, want := stands(a), c.stands(); got != want {
		t.Fatalf("%v: stands %s, want %s", steps, got, want)
	}
}

// compareAll compares behind the steps gone every row of so many of the steps next.
func compareAll(t *testing.T, c *cover, gone, next []step, many int) {
	t.Helper()
	if many == 0 {
		return
	}
	for _, s := range next {
		steps := append(slices.Clone(gone), s)
		to := c.clone()
		compare(t, to, steps)
		compareAll(t, to, steps, next, many-1)
	}
}

func TestAllSmall(t *testing.T) {
	cases := []struct {
		gone, next []step
		many       int
	}{
		{nil, append(lends(0, 1, 2, 3, 4, 5, 6), backs(0, 1, 2, 4, 8, 16, 32)...), 3},
		{nil, append(lends(4, 5, 6), backs(0, 16, 32, 48)...), 5},
		{lends(5, 4, 3, 2), append(lends(0, 1, 2), backs(60, 61, 62, 63)...), 5},
		{lends(0, 0, 0, 0, 0, 0, 0, 0, 3, 4, 5), append(lends(0, 1, 2, 3), backs(0, 1, 2, 3, 4, 5, 6, 7)...), 3},
	}
	for _, c := range cases {
		gone := &cover{}
		all(gone, c.gone)
		compareAll(t, gone, c.gone, c.next, c.many)
	}
}

// scattered gives numbers that jump about below a bound, the same ones for the same seed.
func scattered(seed, many, below int) []int {
	list := make([]int, many)
	state := uint64(seed) + 1
	for i := range list {
		state = state*6364136223846793005 + 1442695040888963407
		list[i] = int(state >> 33 % uint64(below))
	}
	return list
}

// next gives a step by a number that jumps about: mostly of one that a cover can go, else of any. Of some seeds small blocks are asked for alone.
func next(c *cover, seed, number int) step {
	kind, number := number%16, number/16
	switch {
	case kind == 0:
		return back(number%(places+2) - 1)
	case kind == 1:
		return lend(number%(api.MaxOrder+3) - 1)
	case kind < 9-seed%3 && len(c.at) > 0:
		return back(c.at[number%len(c.at)])
	}
	return lend(number % (1 + seed%(api.MaxOrder+1)))
}

// long goes 300 steps with an arena and a cover, and looks at each step behind it.
func long(t *testing.T, seed int, look func(a *buddy.Arena, c *cover, gone step)) (*buddy.Arena, *cover) {
	t.Helper()
	a, c := buddy.New(), &cover{}
	for _, number := range scattered(seed, 300, 1<<20) {
		gone := next(c, seed, number)
		if got, want := take(a, gone), take(c, gone); got != want {
			t.Fatalf("seed %d: %v told %s, want %s", seed, gone, got, want)
		}
		look(a, c, gone)
	}
	return a, c
}

func TestLong(t *testing.T) {
	for seed := range 60 {
		long(t, seed, func(a *buddy.Arena, c *cover, gone step) {
			if got, want := stands(a), c.stands(); got != want {
				t.Fatalf("seed %d, behind %v: stands %s, want %s", seed, gone, got, want)
			}
		})
	}
}

// blocks tells of each place in how many blocks it is, of those that are lent and those that are free.
func blocks(a *buddy.Arena) (many [places]int) {
	add := func(at, order int) {
		for place := range 1 << order {
			many[at+place]++
		}
	}
	at, orders := a.Lent()
	for i := range at {
		add(at[i], orders[i])
	}
	for order := range api.MaxOrder + 1 {
		for _, at := range a.Free(order) {
			add(at, order)
		}
	}
	return many
}

// Each place is always in one block, lent or free; and whatever was lent, all is one block again once it is given back, in whichever order.
func TestAllIsThereAgain(t *testing.T) {
	var once [places]int
	for place := range once {
		once[place] = 1
	}
	for seed := range 60 {
		a, c := long(t, seed, func(a *buddy.Arena, c *cover, gone step) {
			if got := blocks(a); got != once {
				t.Fatalf("seed %d, behind %v: places are in so many blocks: %v", seed, gone, got)
			}
		})
		for _, number := range scattered(seed+1_000, len(c.at), 1<<20) {
			i := number % len(c.at)
			if err := a.Back(c.at[i]); err != nil {
				t.Fatalf("seed %d: Back(%d) told %v", seed, c.at[i], err)
			}
			c.at = slices.Delete(c.at, i, i+1)
		}
		if got := stands(a); got != fresh {
			t.Fatalf("seed %d: all is given back, but stands %s", seed, got)
		}
	}
}

// All blocks of one order are lent from the first on, and are one again from whichever end they are given back.
func TestAllOfOneOrder(t *testing.T) {
	for order := range api.MaxOrder + 1 {
		many := places >> order
		for _, turned := range []bool{false, true} {
			a := buddy.New()
			for i := range many {
				if at, err := a.Lend(order); err != nil || at != i<<order {
					t.Fatalf("order %d: got %d %v, want %d", order, at, err, i<<order)
				}
			}
			at, orders := a.Lent()
			if len(at) != many || !slices.Equal(orders, slices.Repeat([]int{order}, many)) {
				t.Fatalf("order %d: lent are %v %v", order, at, orders)
			}
			if turned {
				slices.Reverse(at)
			}
			for _, place := range at {
				if err := a.Back(place); err != nil {
					t.Fatalf("order %d: Back(%d) told %v", order, place, err)
				}
			}
			if got := stands(a); got != fresh {
				t.Errorf("order %d: stands %s", order, got)
			}
		}
	}
}

// spoil writes over a list, and over what stands behind its length.
func spoil(lists ...[]int) {
	for _, list := range lists {
		list = list[:cap(list)]
		for i := range list {
			list[i] = -7
		}
	}
}

func TestAnswersAreTheCallers(t *testing.T) {
	for _, steps := range [][]step{nil, lends(0), lends(6), append(same(places, 0), backs(odds()...)...), lends(2, 0, 3, 1, 0)} {
		a := buddy.New()
		all(a, steps)
		was := stands(a)
		at, orders := a.Lent()
		wantOrders := slices.Clone(orders)
		spoil(at)
		if !slices.Equal(orders, wantOrders) {
			t.Errorf("behind %v: both lists of Lent share memory: %v, want %v", steps, orders, wantOrders)
		}
		spoil(orders)
		for order := range api.MaxOrder + 1 {
			first, second := a.Free(order), a.Free(order)
			want := slices.Clone(second)
			spoil(first)
			if !slices.Equal(second, want) {
				t.Errorf("behind %v: two answers of Free share memory: %v, want %v", steps, second, want)
			}
			spoil(second)
		}
		if got := stands(a); got != was {
			t.Errorf("behind %v: an answer is kept: stood %s, stands %s", steps, was, got)
		}
		if got, want := take(a, lend(0)), take(again(steps), lend(0)); got != want {
			t.Errorf("behind %v: an answer is kept: told %s, want %s", steps, got, want)
		}
	}
}

// again gives a new arena that went some steps.
func again(steps []step) *buddy.Arena {
	a := buddy.New()
	all(a, steps)
	return a
}

// What was told stays as it was, whatever is lent or given back later.
func TestAnswersStay(t *testing.T) {
	a := again(lends(2, 0, 3, 1, 0))
	at, orders := a.Lent()
	free := a.Free(0)
	want := fmt.Sprint(at, orders, free)
	all(a, append(backs(0, 4, 8), lends(0, 0, 1, 4)...))
	if got := fmt.Sprint(at, orders, free); got != want {
		t.Errorf("told was %s, is %s", want, got)
	}
}

// Arenas know nothing of each other.
func TestArenasAreApart(t *testing.T) {
	a, b := again(lends(2, 0)), again(lends(5))
	was := stands(b)
	all(a, append(backs(0), lends(1, 6, 7)...))
	buddy.New()
	if got := stands(b); got != was {
		t.Errorf("stood %s, stands %s", was, got)
	}
	if got := stands(buddy.New()); got != fresh {
		t.Errorf("a new one stands %s", got)
	}
}

// To ask how an arena stands changes nothing.
func TestAskingChangesNothing(t *testing.T) {
	for seed := range 10 {
		var steps []step
		asked, _ := long(t, seed, func(a *buddy.Arena, c *cover, gone step) {
			stands(a)
			steps = append(steps, gone)
		})
		if got, want := stands(again(steps)), stands(asked); got != want {
			t.Errorf("seed %d: asked stands %s, unasked %s", seed, want, got)
		}
	}
}
