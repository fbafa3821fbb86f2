package ski_test

import (
	"math"
	"testing"

	"larderwick/api"
	"larderwick/plain"
	"larderwick/ski"
)

func TestCostEvenAndLeast(t *testing.T) {
	cases := []struct {
		name              string
		price, days, buy  int
		cost, even, least int
	}{
		{"no day, bought on the first", 1, 0, 1, 0, 0, 0},
		{"no day, bought on the last", 20, 0, 1000, 0, 0, 0},
		{"one day, bought on it", 7, 1, 1, 7, 1, 1},
		{"one day, bought on the next", 7, 1, 2, 1, 1, 1},
		{"one day, for 1, bought on it", 1, 1, 1, 1, 1, 1},
		{"one day, for 1, bought on the next", 1, 1, 2, 1, 1, 1},
		{"for 1, many days, bought at once", 1, 50, 1, 1, 1, 1},
		{"for 1, many days, bought late", 1, 50, 30, 30, 1, 1},
		{"the day ahead of buying is the last", 5, 7, 8, 7, 9, 5},
		{"the day of buying is the last", 5, 7, 7, 11, 9, 5},
		{"the day behind buying is the last", 5, 7, 6, 10, 9, 5},
		{"bought at once", 5, 7, 1, 5, 9, 5},
		{"a day fewer than the price", 5, 4, 5, 4, 4, 4},
		{"as many days as the price", 5, 5, 5, 9, 9, 5},
		{"a day more than the price", 5, 6, 5, 9, 9, 5},
		{"MaxCost, a day fewer", 20, 19, 20, 19, 19, 19},
		{"MaxCost, as many days", 20, 20, 20, 39, 39, 20},
		{"MaxCost, all days, bought at once", 20, 1000, 1, 20, 39, 20},
		{"MaxCost, all days, bought on the last", 20, 1000, 1000, 1019, 39, 20},
		{"MaxCost, all but one day, bought on the one", 20, 999, 1000, 999, 39, 20},
		{"for 1, all days, bought on the last", 1, 1000, 1000, 1000, 1, 1},
	}
	for _, c := range cases {
		t.Run(c.name, func(t *testing.T) {
			if err := ski.Check(c.price, c.days); err != nil {
				t.Errorf("Check told %v", err)
			}
			if got, err := ski.Cost(c.price, c.days, c.buy); err != nil || got != c.cost {
				t.Errorf("Cost: got %d %v, want %d", got, err, c.cost)
			}
			if got, err := ski.Even(c.price, c.days); err != nil || got != c.even {
				t.Errorf("Even: got %d %v, want %d", got, err, c.even)
			}
			if got, err := ski.Least(c.price, c.days); err != nil || got != c.least {
				t.Errorf("Least: got %d %v, want %d", got, err, c.least)
			}
		})
	}
}

// Every call tells ErrRange and nothing else, so no order of errors can be seen: what can is that 0 stands beside each.
func TestFaults(t *testing.T) {
	cases := []struct {
		name             string
		price, days, buy int
		check, cost      api.Errno
	}{
		{"the least of all", 1, 0, 1, api.OK, api.OK},
		{"the most of all", api.MaxCost, api.MaxDays, api.MaxDays, api.OK, api.OK},
		{"price 0", 0, 3, 2, api.ErrRange, api.ErrRange},
		{"price 0, no day", 0, 0, 1, api.ErrRange, api.ErrRange},
		{"price below 0", -1, 3, 2, api.ErrRange, api.ErrRange},
		{"price above MaxCost", api.MaxCost + 1, 3, 2, api.ErrRange, api.ErrRange},
		{"price far above MaxCost, no day", api.MaxDays, 0, 1, api.ErrRange, api.ErrRange},
		{"the least price", math.MinInt, 3, 2, api.ErrRange, api.ErrRange},
		{"the greatest price", math.MaxInt, 3, 2, api.ErrRange, api.ErrRange},
		{"days below 0", 5, -1, 2, api.ErrRange, api.ErrRange},
		{"days above MaxDays", 5, api.MaxDays + 1, 2, api.ErrRange, api.ErrRange},
		{"the fewest days", 5, math.MinInt, 2, api.ErrRange, api.ErrRange},
		{"the most days", 5, math.MaxInt, 2, api.ErrRange, api.ErrRange},
		{"bought on the day 0", 5, 3, 0, api.OK, api.ErrRange},
		{"bought on the day 0, no day", 5, 0, 0, api.OK, api.ErrRange},
		{"bought below the day 0", 5, 3, -1, api.OK, api.ErrRange},
		{"bought behind MaxDays", 5, 3, api.MaxDays + 1, api.OK, api.ErrRange},
		{"bought behind MaxDays, no day", 5, 0, api.MaxDays + 1, api.OK, api.ErrRange},
		{"bought behind MaxDays, all days", 5, api.MaxDays, api.MaxDays + 1, api.OK, api.ErrRange},
		{"bought on the first number", 5, 3, math.MinInt, api.OK, api.ErrRange},
		{"bought on the last number", 5, 3, math.MaxInt, api.OK, api.ErrRange},
		{"price and days", 0, -1, 2, api.ErrRange, api.ErrRange},
		{"price and the day of buying", api.MaxCost + 1, 3, 0, api.ErrRange, api.ErrRange},
		{"days and the day of buying", 5, api.MaxDays + 1, api.MaxDays + 1, api.ErrRange, api.ErrRange},
		{"all", -1, -1, -1, api.ErrRange, api.ErrRange},
	}
	for _, c := range cases {
		t.Run(c.name, func(t *testing.T) {
			if got := plain.Told(ski.Check(c.price, c.days)); got != c.check {
				t.Errorf("Check told %v, want %v", got, c.check)
			}
			told := func(call string, got int, err error, want api.Errno) {
				if plain.Told(err) != want || want != api.OK && got != 0 {
					t.Errorf("%s told %d %v, want %v", call, got, err, want)
				}
			}
			got, err := ski.Cost(c.price, c.days, c.buy)
			told("Cost", got, err, c.cost)
			got, err = ski.Even(c.price, c.days)
			told("Even", got, err, c.check)
			got, err = ski.Least(c.price, c.days)
			told("Least", got, err, c.check)
		})
	}
}

// dayByDay goes through the days, and pays on each what is due on it.
func dayByDay(price, days, buy int) int {
	paid := 0
	for day := 1; day <= days; day++ {
		switch {
		case day < buy:
			paid++
		case day == buy:
			paid += price
		}
	}
	return paid
}

// buys gives the days of buying that tell something with a price and days: all early ones, those about the last day, and the last ones that may be.
func buys(days int) []int {
	var some []int
	for buy := 1; buy <= api.MaxCost+5; buy++ {
		some = append(some, buy)
	}
	for buy := max(days-3, 1); buy <= min(days+3, api.MaxDays); buy++ {
		some = append(some, buy)
	}
	return append(some, api.MaxDays-1, api.MaxDays)
}

func TestAgainstDayByDay(t *testing.T) {
	for price := 1; price <= api.MaxCost; price++ {
		for days := 0; days <= api.MaxDays; days++ {
			if err := ski.Check(price, days); err != nil {
				t.Fatalf("Check(%d, %d) told %v", price, days, err)
			}
			for _, buy := range buys(days) {
				want := dayByDay(price, days, buy)
				if got, err := ski.Cost(price, days, buy); err != nil || got != want {
					t.Fatalf("Cost(%d, %d, %d): got %d %v, want %d", price, days, buy, got, err, want)
				}
			}
			want := dayByDay(price, days, price)
			if got, err := ski.Even(price, days); err != nil || got != want {
				t.Fatalf("Even(%d, %d): got %d %v, want %d", price, days, got, err, want)
			}
		}
	}
}

// The least is what the best day of buying costs, among them a day that does not come. (With MaxDays days each one comes, but to rent for so long is never the cheapest.)
func TestLeastIsTheBestDay(t *testing.T) {
	for price := 1; price <= api.MaxCost; price++ {
		for _, days := range []int{0, 1, 2, price - 1, price, price + 1, 2 * price, 99, api.MaxDays - 1, api.MaxDays} {
			want := math.MaxInt
			for buy := 1; buy <= api.MaxDays; buy++ {
				cost, err := ski.Cost(price, days, buy)
				if err != nil {
					t.Fatal(err)
				}
				want = min(want, cost)
			}
			if got, err := ski.Least(price, days); err != nil || got != want {
				t.Fatalf("Least(%d, %d): got %d %v, want %d", price, days, got, err, want)
			}
		}
	}
}

// Whoever buys when renting was as dear pays less than twice the least, if there is a day.
func TestEvenIsLessThanTwiceTheLeast(t *testing.T) {
	for price := 1; price <= api.MaxCost; price++ {
		for days := 0; days <= api.MaxDays; days++ {
			even, _ := ski.Even(price, days)
			least, _ := ski.Least(price, days)
			if even < least || even > max(2*least-1, 0) {
				t.Fatalf("price %d, %d days: Even %d, Least %d", price, days, even, least)
			}
		}
	}
}

func TestNothingIsKeptBetweenCalls(t *testing.T) {
	others := [][3]int{{1, 0, 1}, {20, 1000, 1000}, {0, 3, 2}, {5, -1, 2}, {5, 3, 0}, {math.MaxInt, math.MinInt, math.MaxInt}}
	for _, other := range others {
		ski.Cost(other[0], other[1], other[2])
		ski.Even(other[0], other[1])
		ski.Least(other[0], other[1])
		cost, first := ski.Cost(5, 7, 6)
		even, second := ski.Even(5, 7)
		least, third := ski.Least(5, 7)
		if cost != 10 || even != 9 || least != 5 || first != nil || second != nil || third != nil {
			t.Errorf("behind %v got %d %v, %d %v, %d %v", other, cost, first, even, second, least, third)
		}
	}
}
