package journal

import (
	"cmp"
	"slices"

	"bonehouse/api"
)

// Book is an office's collection of the entries of all offices, on a disk.
type Book struct {
	disk    *Disk
	outages int // those of the disk, up to when the book was made or opened
	head    head
	behind  int         // the sector behind the last record
	entries []api.Entry // by office, then by number
}

// Make makes an empty book for so many offices on d.
func Make(d *Disk, offices int) (*Book, api.Errno) {
	switch {
	case d == nil || !isFromTo(offices, 1, api.MaxOffices):
		return nil, api.ErrArg
	case !d.Up():
		return nil, api.ErrDown
	case d.Sectors() < leastSectors:
		return nil, api.ErrFull
	}
	b := empty(d, head{generation: 1, offices: offices, half: lowHalf})
	r := run{disk: d}
	r.wipe(evenHead)
	r.wipe(oddHead)
	r.wipe(b.behind)
	r.sync()
	r.write(b.head.at(), b.head.text())
	r.sync()
	if r.err != api.OK {
		return nil, r.err
	}
	return b, api.OK
}

// Open opens the book on d.
func Open(d *Disk) (*Book, api.Errno) {
	switch {
	case d == nil:
		return nil, api.ErrArg
	case !d.Up():
		return nil, api.ErrDown
	case d.Sectors() < leastSectors:
		return nil, api.ErrDisk
	}
	x, is := d.head()
	if !is {
		return nil, api.ErrDisk
	}
	b := empty(d, x)
	b.read()
	return b, api.OK
}

// empty returns the book on d with a head, without entries.
func empty(d *Disk, x head) *Book {
	from, _ := bounds(d.Sectors(), x.half)
	return &Book{disk: d, outages: d.outages, head: x, behind: from}
}

// read reads the records of the half of b.
func (b *Book) read() {
	for {
		e, size, is := entryIn(b.disk.now[b.behind : b.behind+b.Room()])
		if !is || !b.changes(e) {
			return
		}
		b.put(e)
		b.behind += size
	}
}

// Offices returns how many offices b is for.
func (b *Book) Offices() int {
	if b == nil {
		return 0
	}
	return b.head.offices
}

// Room returns how many sectors of the half that is used are left.
func (b *Book) Room() int {
	if b.Offices() == 0 { // it was neither made nor opened
		return 0
	}
	_, to := bounds(b.disk.Sectors(), b.head.half)
	return to - b.behind
}

// isDown reports whether the power has gone off since b was made or opened.
func (b *Book) isDown() bool { return b.Offices() == 0 || b.outages != b.disk.outages }

// isOffice reports whether b is for an office.
func (b *Book) isOffice(office int) bool { return isFromTo(office, 0, b.Offices()-1) }

// find returns the place of an entry with the office and the number of e, and whether b has one.
func (b *Book) find(e api.Entry) (int, bool) {
	return slices.BinarySearchFunc(b.entries, e, compare)
}

// of returns the entries of an office of b, in the memory of b.
func (b *Book) of(office int) []api.Entry {
	from, _ := b.find(api.Entry{Office: office})
	to, _ := b.find(api.Entry{Office: office + 1})
	return b.entries[from:to]
}

// admits reports whether e is a valid entry of an office of b.
func (b *Book) admits(e api.Entry) bool { return CheckEntry(e) == api.OK && b.isOffice(e.Office) }

// isNext reports whether the number of e comes next for its office.
func (b *Book) isNext(e api.Entry) bool { return e.No == len(b.of(e.Office)) }

// changes reports whether the record of e would change b.
func (b *Book) changes(e api.Entry) bool {
	if !b.admits(e) {
		return false
	}
	if i, is := b.find(e); is {
		return e.Body < b.entries[i].Body
	}
	return b.isNext(e)
}

// put has e in b, perhaps instead of another one.
func (b *Book) put(e api.Entry) {
	i, is := b.find(e)
	if is {
		b.entries[i] = e
	} else {
		b.entries = slices.Insert(b.entries, i, e)
	}
}

// Add adds the next entry of an office.
func (b *Book) Add(e api.Entry) api.Errno {
	if b.isDown() {
		return api.ErrDown
	}
	if !b.admits(e) {
		return api.ErrEntry
	}
	if i, is := b.find(e); is && b.entries[i] == e {
		return api.OK
	}
	if !b.isNext(e) {
		return api.ErrEntry
	}
	return b.write(e)
}

// write writes the record of an entry that changes b, and has it in b.
func (b *Book) write(e api.Entry) api.Errno {
	var x page
	l := x.fill(e)
	if len(l) > b.Room() {
		return api.ErrFull
	}
	r := run{disk: b.disk}
	// The mark of the first sector comes last: without it the others are not there.
	r.writeAll(b.behind+1, l[1:])
	if len(l) < b.Room() {
		r.wipe(b.behind + len(l))
	}
	r.sync()
	r.write(b.behind, l[0])
	r.sync()
	if r.err != api.OK {
		return r.err
	}
	b.put(e)
	b.behind += len(l)
	return api.OK
}

// Take adds the entries of l that are new or lesser, and returns how many are.
func (b *Book) Take(l []api.Entry) (int, api.Errno) {
	if b.isDown() {
		return 0, api.ErrDown
	}
	n := 0
	for _, e := range least(l) {
		if !b.changes(e) {
			continue
		}
		if err := b.write(e); err != api.OK {
			return 0, err
		}
		n++
	}
	return n, api.OK
}

// least returns the valid entries of l, of several with one office and number that with the least Body, by office, then by number.
func least(l []api.Entry) []api.Entry {
	var valid []api.Entry
	for _, e := range l {
		if CheckEntry(e) == api.OK {
			valid = append(valid, e)
		}
	}
	slices.SortFunc(valid, func(a, b api.Entry) int {
		return cmp.Or(compare(a, b), cmp.Compare(a.Body, b.Body))
	})
	return slices.CompactFunc(valid, func(a, b api.Entry) bool { return compare(a, b) == 0 })
}

// Compact writes all entries to the other half of the disk, once each, uses that from now on, and returns how many sectors are left more than before.
func (b *Book) Compact() (int, api.Errno) {
	if b.isDown() {
		return 0, api.ErrDown
	}
	next := b.head.next()
	behind, to := bounds(b.disk.Sectors(), next.half)
	r := run{disk: b.disk}
	var x page
	for _, e := range b.entries {
		l := x.fill(e)
		r.writeAll(behind, l)
		behind += len(l)
	}
	if behind < to {
		r.wipe(behind)
	}
	r.sync()
	r.wipe(next.at())
	r.sync()
	r.write(next.at(), next.text())
	r.sync()
	if r.err != api.OK {
		return 0, r.err
	}
	before := b.Room()
	b.head, b.behind = next, behind
	return b.Room() - before, api.OK
}
