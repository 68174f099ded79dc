package rules

import (
	"slices"

	"bonehouse/api"
)

const measuresFrom = 100 // among what Fields returns

// Fields returns what e asks for, in increasing order: the fields, and 100 more than the number of each measurement; ErrType unless e is a valid expression.
func Fields(e api.Expr) ([]int, api.Errno) {
	if err := checkAny(e); err != api.OK {
		return nil, err
	}
	return fields(e), api.OK
}

// fields is Fields for a valid expression.
func fields(e api.Expr) []int {
	asked := askedIn(e)
	slices.Sort(asked)
	return slices.Compact(asked)
}

// askedIn returns what a valid expression asks for, in the order of its text.
func askedIn(e api.Expr) []int {
	switch e.Op {
	case api.FieldO:
		return []int{e.N}
	case api.MeasureO, api.KnownO:
		return []int{measuresFrom + e.N}
	}
	var asked []int
	for _, part := range e.L {
		asked = append(asked, askedIn(part)...)
	}
	return asked
}

// Swap returns e with both finds exchanged; ErrType unless it is a valid expression.
func Swap(e api.Expr) (api.Expr, api.Errno) {
	if err := checkAny(e); err != api.OK {
		return api.Expr{}, err
	}
	return rebuilt(e, swapped), api.OK
}

// Fold returns e with all worked out that does not depend on finds; ErrType unless it is a valid expression.
func Fold(e api.Expr) (api.Expr, api.Errno) {
	if err := checkAny(e); err != api.OK {
		return api.Expr{}, err
	}
	return rebuilt(e, folded), api.OK
}

// rebuilt returns e after a change of all its parts, from the inner ones on, and then of itself. What is changed is new memory.
func rebuilt(e api.Expr, change func(api.Expr) api.Expr) api.Expr {
	var parts []api.Expr
	for _, part := range e.L {
		parts = append(parts, rebuilt(part, change))
	}
	return change(api.Expr{Op: e.Op, N: e.N, L: parts})
}

// swapped returns a node that asks the other find, if it asks one.
func swapped(e api.Expr) api.Expr {
	switch e.Op {
	case api.FieldO, api.MeasureO, api.KnownO:
		e.N ^= 1
	}
	return e
}

// folded returns what becomes of a node whose parts are folded.
func folded(e api.Expr) api.Expr {
	switch e.Op {
	case api.AddO, api.SubO, api.MulO:
		return foldedNumber(e)
	case api.LessO, api.EqualO, api.WithinO:
		if areNumbers(e.L) {
			x, y := exactly(e.L[0].N), exactly(e.L[1].N)
			return constant(comparison(e)(x, y).is)
		}
	case api.AndO:
		return foldedJunction(e, false)
	case api.OrO:
		return foldedJunction(e, true)
	case api.NotO:
		return foldedNot(e)
	}
	return e
}

// areNumbers reports whether all parts are numbers of their own.
func areNumbers(l []api.Expr) bool {
	return !slices.ContainsFunc(l, func(e api.Expr) bool { return e.Op != api.NumberO })
}

// foldedNumber returns the number that e is, if that is known and can be one of an expression; otherwise e.
func foldedNumber(e api.Expr) api.Expr {
	if !areNumbers(e.L) {
		return e
	}
	n := arithmetic(e.Op)(exactly(e.L[0].N), exactly(e.L[1].N)).Lo
	if n < -api.MaxNumber || n > api.MaxNumber {
		return e
	}
	return api.Expr{Op: api.NumberO, N: n}
}

// foldedJunction folds an AndO, which one part that is false decides, or an OrO, which one that is true decides.
func foldedJunction(e api.Expr, decides bool) api.Expr {
	first, second := e.L[0], e.L[1]
	switch {
	case isConstant(first, decides) || isConstant(second, decides):
		return constant(decides)
	case isConstant(first, !decides):
		return second
	case isConstant(second, !decides):
		return first
	}
	return e
}

// foldedNot folds a NotO.
func foldedNot(e api.Expr) api.Expr {
	part := e.L[0]
	switch {
	case isConstant(part, true):
		return constant(false)
	case isConstant(part, false):
		return constant(true)
	case part.Op == api.NotO:
		return part.L[0]
	}
	return e
}

// constant returns the condition that stands for what is true, or for what is false.
func constant(is bool) api.Expr {
	second := 1
	if is {
		second = 0
	}
	return api.Expr{Op: api.EqualO, L: []api.Expr{{Op: api.NumberO}, {Op: api.NumberO, N: second}}}
}

// isConstant reports whether a folded expression is the condition that stands for what is true, or for what is false: no other EqualO of two numbers is left in it.
func isConstant(e api.Expr, is bool) bool {
	return e.Op == api.EqualO && areNumbers(e.L) && (e.L[0].N == e.L[1].N) == is
}
