package journal

import (
	"slices"

	"bonehouse/api"
)

const maxAsks = api.MaxOffices * api.MaxEntries // that are answered at once

// isAsk reports whether a question is valid for b.
func (b *Book) isAsk(q api.Ask) bool {
	return b.isOffice(q.Office) && 0 <= q.From && q.From < q.To && q.To <= api.MaxEntries
}

// within returns the entries of a valid question, in the memory of b.
func (b *Book) within(q api.Ask) []api.Entry {
	l := b.of(q.Office)
	return l[min(q.From, len(l)):min(q.To, len(l))]
}

// ask returns a valid question, with the digest of b.
func (b *Book) ask(office, from, to int) api.Ask {
	q := api.Ask{Office: office, From: from, To: to}
	q.Sum = sum(b.within(q))
	return q
}

// Digest returns the sum of the entries of an office from a number on, up to, and without, another one.
func (b *Book) Digest(office, from, to int) (uint64, api.Errno) {
	if !b.isAsk(api.Ask{Office: office, From: from, To: to}) {
		return 0, api.ErrArg
	}
	return b.ask(office, from, to).Sum, api.OK
}

// Begin returns the questions with which a dialogue begins.
func (b *Book) Begin() []api.Ask {
	var l []api.Ask
	for office := range b.Offices() {
		l = append(l, b.ask(office, 0, api.MaxEntries))
	}
	return l
}

// Answer returns the questions that are asked in turn, and the entries that are sent.
func (b *Book) Answer(l []api.Ask) ([]api.Ask, []api.Entry, api.Errno) {
	if len(l) > maxAsks {
		return nil, nil, api.ErrLimit
	}
	if slices.ContainsFunc(l, func(q api.Ask) bool { return !b.isAsk(q) }) {
		return nil, nil, api.ErrArg
	}
	var asks []api.Ask
	var sent []api.Entry
	for _, q := range l {
		own := b.ask(q.Office, q.From, q.To)
		switch {
		case q.Sum == own.Sum:
		case q.To == q.From+1:
			sent = append(sent, b.within(q)...)
			if !q.Back {
				own.Back = true
				asks = append(asks, own)
			}
		default:
			middle := (q.From + q.To) / 2
			asks = append(asks, b.ask(q.Office, q.From, middle), b.ask(q.Office, middle, q.To))
		}
	}
	return asks, sent, api.OK
}
