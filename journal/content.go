package journal

import (
	"slices"

	"bonehouse/api"
)

// Entries returns the entries of an office.
func (b *Book) Entries(office int) ([]api.Entry, api.Errno) {
	if !b.isOffice(office) {
		return nil, api.ErrArg
	}
	return slices.Clone(b.of(office)), api.OK
}

// All returns all entries, by office, then by number.
func (b *Book) All() []api.Entry {
	if b == nil {
		return nil
	}
	return slices.Clone(b.entries)
}

// Tally returns how many entries of each office b has, and their sums.
func (b *Book) Tally() api.Tally {
	var t api.Tally
	for office := range b.Offices() {
		l := b.of(office)
		t.Have = append(t.Have, len(l))
		t.Sums = append(t.Sums, sum(l))
	}
	return t
}

// Wanted returns the entries that a book with the tally t does not have, or has otherwise.
func (b *Book) Wanted(t api.Tally) ([]api.Entry, api.Errno) {
	if !b.isTally(t) {
		return nil, api.ErrArg
	}
	var wanted []api.Entry
	for office := range b.Offices() {
		l := b.of(office)
		if have := t.Have[office]; have <= len(l) && sum(l[:have]) == t.Sums[office] {
			l = l[have:]
		}
		wanted = append(wanted, l...)
	}
	return wanted, api.OK
}

// isTally reports whether a book with as many offices as b can have the tally t.
func (b *Book) isTally(t api.Tally) bool {
	return len(t.Have) == b.Offices() && len(t.Sums) == b.Offices() && !slices.ContainsFunc(t.Have, func(n int) bool { return n < 0 })
}
