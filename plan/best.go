package plan

import "math"

// never is the cost of what cannot be done: greater than all others.
const never = math.MaxInt

// best is the best of some items, each of which has a cost: of several the first one.
type best[T any] struct {
	item     T
	cost     int
	isBetter func(cost, than int) bool
}

// cheapest returns the best of no items yet, where less is better; an item that costs never is as bad as none.
func cheapest[T any]() best[T] {
	return best[T]{cost: never, isBetter: func(cost, than int) bool { return cost < than }}
}

// dearest returns the best of no items yet, where more is better.
func dearest[T any]() best[T] {
	return best[T]{cost: -1, isBetter: func(cost, than int) bool { return cost > than }}
}

// see takes a further item into account.
func (b *best[T]) see(item T, cost int) {
	if b.isBetter(cost, b.cost) {
		b.item, b.cost = item, cost
	}
}
