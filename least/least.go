// Package least finds the least that it could cost to go on from state to state. It stands beside the layers: whichever has such a cost to find names its states, and where each of them may lead.
package least

import "iter"

// Table has the states that can be come to, and the least that it costs to come to each of them.
type Table[S comparable] struct {
	costs map[S]int
}

// Start gives the table of one state, in which one is for nothing.
func Start[S comparable](state S) Table[S] {
	return Table[S]{map[S]int{state: 0}}
}

// All goes through the states and what they cost, in no order that may be relied on.
func (t Table[S]) All() iter.Seq2[S, int] {
	return func(yield func(S, int) bool) {
		for state, cost := range t.costs {
			if !yield(state, cost) {
				return
			}
		}
	}
}

// Step gives the table one step on, where leads tells to which states a state leads, and what each of these steps costs. The table itself stays as it is, since nothing may be put into it while one goes through it.
func (t Table[S]) Step(leads func(from S) iter.Seq2[S, int]) Table[S] {
	next := Table[S]{map[S]int{}}
	for from, paid := range t.All() {
		for to, cost := range leads(from) {
			next.offer(to, paid+cost)
		}
	}
	return next
}

// offer puts a way to a state into the table, if none that is as cheap stands there. As the least cost alone is kept, it does not matter in which order ways are offered.
func (t Table[S]) offer(state S, cost int) {
	if known, ok := t.costs[state]; !ok || cost < known {
		t.costs[state] = cost
	}
}

// Least tells what the cheapest state costs; 0, if there is no state.
func (t Table[S]) Least() int {
	found, none := 0, true
	for _, cost := range t.All() {
		if none || cost < found {
			found, none = cost, false
		}
	}
	return found
}
