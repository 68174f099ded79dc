package vault

import (
	"slices"

	"bonehouse/api"
	"bonehouse/finds"
)

// known returns what is asked of an office with an open book.
func known[T any](y *Model, p int, ask func(p int) (T, api.Errno)) (x T, err api.Errno) {
	defer func() {
		if recover() != nil { // a nil model has no offices
			var zero T
			x, err = zero, api.ErrArg
		}
	}()
	if p < 0 || p >= len(y.offices) {
		return x, api.ErrArg
	}
	if !y.offices[p].isOpen() {
		return x, api.ErrNotNow
	}
	return ask(p)
}

// Tally returns what the book of an office has.
func (y *Model) Tally(p int) (api.Tally, api.Errno) {
	return known(y, p, func(p int) (api.Tally, api.Errno) { return y.offices[p].book.Tally(), api.OK })
}

// Refused returns how many entries an office refuses.
func (y *Model) Refused(p int) (int, api.Errno) {
	return known(y, p, func(p int) (int, api.Errno) { return y.view(p).refused, api.OK })
}

// Register returns the register of an office.
func (y *Model) Register(p int) (api.Register, api.Errno) {
	return known(y, p, func(p int) (api.Register, api.Errno) { return y.view(p).register, api.OK })
}

// Code returns the rules of an office.
func (y *Model) Code(p int) (api.Code, api.Errno) {
	return known(y, p, func(p int) (api.Code, api.Errno) { return y.view(p).code, api.OK })
}

// Reviewed returns the ties of finds that somebody has reviewed, and that an office has.
func (y *Model) Reviewed(p int) ([]api.Tie, api.Errno) {
	return known(y, p, func(p int) ([]api.Tie, api.Errno) { return y.view(p).reviewed(), api.OK })
}

// Finds returns the finds that stand.
func (y *Model) Finds(p int) ([]api.Find, api.Errno) {
	return known(y, p, func(p int) ([]api.Find, api.Errno) { return y.view(p).standing(), api.OK })
}

// Graph returns the graph of these finds that counts.
func (y *Model) Graph(p int) (api.Graph, api.Errno) {
	return known(y, p, func(p int) (api.Graph, api.Errno) {
		x, err := y.view(p).ground()
		if err != api.OK {
			return api.Graph{}, err
		}
		return x.graph()
	})
}

// Court returns what an office knows of claims and leases.
func (y *Model) Court(p int) (api.Court, api.Errno) {
	return known(y, p, func(p int) (api.Court, api.Errno) { return y.court(p), api.OK })
}

// equals reports whether two offices have made the same of their books.
func (v *view) equals(w *view) bool {
	return slices.EqualFunc(v.register.Events, w.register.Events, sameEvent) && slices.Equal(v.code.Rules, w.code.Rules) && slices.Equal(v.reviewed(), w.reviewed())
}

// sameEvent reports whether two events of registers say the same.
func sameEvent(a, b api.Event) bool {
	s, _ := finds.PrintEvent(a)
	t, _ := finds.PrintEvent(b)
	return s == t
}
