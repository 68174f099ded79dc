package journal_test

import (
	"hash/fnv"
	"slices"
	"strings"
	"testing"

	"bonehouse/api"
	"bonehouse/journal"
)

// noise is a row of numbers that is the same in each run.
type noise uint64

func (x *noise) next() uint64 {
	*x += 0x9e3779b97f4a7c15
	z := uint64(*x)
	z = (z ^ z>>30) * 0xbf58476d1ce4e5b9
	z = (z ^ z>>27) * 0x94d049bb133111eb
	return z ^ z>>31
}

// below returns a number from 0 to n - 1.
func (x *noise) below(n int) int { return int(x.next() % uint64(n)) }

// from returns a number from lo to hi.
func (x *noise) from(lo, hi int) int { return lo + x.below(hi-lo+1) }

// one returns an element of a list.
func one[T any](x *noise, l ...T) T { return l[x.below(len(l))] }

// shuffled returns a list in some order.
func shuffled[T any](x *noise, l []T) []T {
	var s []T
	for i, v := range l {
		s = slices.Insert(s, x.below(i+1), v)
	}
	return s
}

// e returns an entry.
func e(office, no int, body string) api.Entry { return api.Entry{Office: office, No: no, Body: body} }

// place returns a number for the office and the number of an entry.
func place(x api.Entry) int { return 64*x.Office + x.No }

// byOffice returns the entries of an office.
func byOffice(l []api.Entry, office int) []api.Entry {
	var some []api.Entry
	for _, x := range l {
		if x.Office == office {
			some = append(some, x)
		}
	}
	return some
}

// sumOf returns the sum of entries: it is the one that is known as FNV-1a.
func sumOf(l []api.Entry) uint64 {
	h := fnv.New64a()
	for _, x := range l {
		n := len(x.Body)
		h.Write([]byte{byte(x.Office), byte(x.No), byte(n % 256), byte(n / 256)})
		h.Write([]byte(x.Body))
	}
	return h.Sum64()
}

// call is a call that writes: of a text into a sector, or, with the sector -1, a sync.
type call struct {
	at   int
	text string
}

// syncs is a sync.
func syncs() call { return call{at: -1} }

// zeros is zeros into a sector.
func zeros(at int) call { return call{at, strings.Repeat("\x00", 64)} }

// paper is a disk by the chapter's words.
type paper struct {
	safe  []string // by sector
	loose []call   // the writes that are not safe
	isOff bool
	armed int
}

// newPaper returns a disk of zeros.
func newPaper(sectors int) *paper {
	p := &paper{}
	for range sectors {
		p.safe = append(p.safe, strings.Repeat("\x00", 64))
	}
	return p
}

// read returns what was written last into a sector.
func (p *paper) read(at int) string {
	for i := len(p.loose) - 1; i >= 0; i-- {
		if p.loose[i].at == at {
			return p.loose[i].text
		}
	}
	return p.safe[at]
}

// do does a call.
func (p *paper) do(c call) api.Errno {
	isSync := c.at == -1
	if p.isOff {
		return api.ErrDown
	}
	if !isSync && (c.at < 0 || c.at >= len(p.safe) || len(c.text) != 64) {
		return api.ErrArg
	}
	p.armed--
	p.isOff = p.armed == 0
	if !isSync {
		p.loose = append(p.loose, c)
	} else if !p.isOff {
		p.keep(64, p.loose)
	}
	if p.isOff {
		return api.ErrDown
	}
	return api.OK
}

// keep makes writes safe, of the last one only some bytes, and forgets all.
func (p *paper) keep(bytes int, l []call) {
	for i, c := range l {
		n := 64
		if i == len(l)-1 {
			n = min(n, bytes)
		}
		p.safe[c.at] = c.text[:n] + p.safe[c.at][n:]
	}
	p.loose = nil
}

// restart turns the power on again.
func (p *paper) restart(keep string) {
	var kept []call
	bytes := 0
	for i, c := range p.loose {
		if i < len(keep) && keep[i] != 0 {
			kept = append(kept, c)
			bytes = int(keep[i])
		}
	}
	p.keep(bytes, kept)
	p.isOff, p.armed = false, 0
}

// pages returns all sectors of a paper, as one text.
func (p *paper) pages() string {
	var s strings.Builder
	for at := range p.safe {
		s.WriteString(p.read(at))
	}
	return s.String()
}

// pagesOf returns all sectors of a disk whose power is on, as one text.
func pagesOf(t testing.TB, d *journal.Disk) string {
	t.Helper()
	var s strings.Builder
	for at := range d.Sectors() {
		text, err := d.Read(at)
		if err != api.OK || len(text) != 64 {
			t.Fatal(at, len(text), err)
		}
		s.WriteString(text)
	}
	return s.String()
}

// recordOf returns the sectors of the record of an entry.
func recordOf(x api.Entry) []string {
	payload := string([]byte{byte(x.Office), byte(x.No)}) + x.Body
	n := len(payload)
	padded := payload + strings.Repeat("\x00", 128)
	l := []string{string([]byte{byte(n % 256), byte(n / 256), 0, 0}) + padded[:59] + "\x01"}
	for at := 59; at < n; at += 64 {
		l = append(l, padded[at:at+64])
	}
	return l
}

// having returns the index of the entry with the office and number of x; -1 if there is none.
func having(l []api.Entry, x api.Entry) int {
	return slices.IndexFunc(l, func(y api.Entry) bool { return place(y) == place(x) })
}

// draft is a book by the chapter's words.
type draft struct {
	sectors, offices int
	generation       uint64
	half             int
	records          []api.Entry // those of the half
}

// h returns how many sectors a half has.
func (b draft) h() int { return (b.sectors - 2) / 2 }

// start returns the first sector of a half.
func (b draft) start(half int) int { return 2 + half*b.h() }

// sizeOf returns how many sectors the records of entries have.
func sizeOf(l []api.Entry) int {
	n := 0
	for _, x := range l {
		n += 1 + (len(x.Body)+2+4)/64
	}
	return n
}

// room returns how many sectors are behind the last record.
func (b draft) room() int { return b.h() - sizeOf(b.records) }

// entries returns what the book has, by office, then by number: of each place the last record.
func (b draft) entries() []api.Entry {
	var last [8 * 64]int // for each place the index of its record, from 1 on
	for i, x := range b.records {
		last[place(x)] = i + 1
	}
	var l []api.Entry
	for _, i := range last {
		if i > 0 {
			l = append(l, b.records[i-1])
		}
	}
	return l
}

// isChange reports whether the record of an entry changes the book.
func (b draft) isChange(x api.Entry) bool {
	if x.Office < 0 || x.Office >= b.offices || x.No < 0 || x.No >= 64 || len(x.Body) > 2400 {
		return false
	}
	l := b.entries()
	if i := having(l, x); i >= 0 {
		return l[i].Body > x.Body
	}
	return x.No == len(byOffice(l, x.Office))
}

// with returns the book with a further record.
func (b draft) with(x api.Entry) draft {
	b.records = append(slices.Clone(b.records), x)
	return b
}

// headOf returns the sector of the head of the book.
func (b draft) headOf() string {
	s := strings.Repeat("\x00", 53) + string([]byte{byte(b.half), byte(b.offices)})
	for i := range 8 {
		s += string([]byte{byte(b.generation >> (8 * i))})
	}
	return s + "\x01"
}

// drawn returns the book for so many offices on a new disk, and the calls that make it.
func drawn(sectors, offices int) (draft, []call) {
	b := draft{sectors: sectors, offices: offices, generation: 1}
	return b, []call{zeros(0), zeros(1), zeros(2), syncs(), {1, b.headOf()}, syncs()}
}

// step is what is written for one record, or for a Compact, and what the book is behind it.
type step struct {
	calls []call
	then  draft
}

// record returns the step that writes the record of an entry; ErrFull if there is no room.
func (b draft) record(x api.Entry) (step, api.Errno) {
	l := recordOf(x)
	if len(l) > b.room() {
		return step{}, api.ErrFull
	}
	at := b.start(b.half) + sizeOf(b.records)
	var calls []call
	for i := 1; i < len(l); i++ {
		calls = append(calls, call{at + i, l[i]})
	}
	if behind := at + len(l); behind < b.start(b.half)+b.h() {
		calls = append(calls, zeros(behind))
	}
	return step{append(calls, syncs(), call{at, l[0]}, syncs()), b.with(x)}, api.OK
}

// compacted returns the step of a Compact.
func (b draft) compacted() step {
	then := draft{sectors: b.sectors, offices: b.offices, generation: b.generation + 1, half: 1 - b.half, records: b.entries()}
	at := b.start(then.half)
	var calls []call
	for _, x := range then.records {
		for _, s := range recordOf(x) {
			calls = append(calls, call{at, s})
			at++
		}
	}
	if at < b.start(then.half)+b.h() {
		calls = append(calls, zeros(at))
	}
	head := int(then.generation % 2)
	return step{append(calls, syncs(), zeros(head), syncs(), call{head, then.headOf()}, syncs()), then}
}

// deed is a call of Add, Take or Compact.
type deed struct {
	kind string
	l    []api.Entry
}

// steps returns what a deed does to the book, and what it returns if the power stays on.
func (b draft) steps(x deed) ([]step, int, api.Errno) {
	switch x.kind {
	case "add":
		s, err := b.added(x.l[0])
		return s, 0, err
	case "take":
		return b.taken(x.l)
	}
	s := b.compacted()
	return []step{s}, s.then.room() - b.room(), api.OK
}

// added returns what Add does.
func (b draft) added(x api.Entry) ([]step, api.Errno) {
	l := b.entries()
	if x.Office < 0 || x.Office >= b.offices || x.No < 0 || x.No >= 64 || len(x.Body) > 2400 {
		return nil, api.ErrEntry
	}
	if slices.Contains(l, x) {
		return nil, api.OK
	}
	if x.No != len(byOffice(l, x.Office)) {
		return nil, api.ErrEntry
	}
	s, err := b.record(x)
	if err != api.OK {
		return nil, err
	}
	return []step{s}, api.OK
}

// taken returns what Take does.
func (b draft) taken(l []api.Entry) ([]step, int, api.Errno) {
	var steps []step
	for office := range b.offices {
		for no := 0; no <= len(byOffice(b.entries(), office)); no++ {
			best := -1
			for i, x := range l {
				if journal.CheckEntry(x) == api.OK && x.Office == office && x.No == no && (best < 0 || x.Body < l[best].Body) {
					best = i
				}
			}
			if best < 0 || !b.isChange(l[best]) {
				continue
			}
			s, err := b.record(l[best])
			if err != api.OK {
				return steps, 0, err
			}
			steps = append(steps, s)
			b = s.then
		}
	}
	return steps, len(steps), api.OK
}

// drafted returns the book that stands in the sectors of a disk.
func drafted(pages string) (draft, api.Errno) {
	b := draft{sectors: len(pages) / 64}
	is := false
	for at := range min(2, b.sectors) {
		s := pages[64*at:][:64]
		n := uint64(0)
		for i := range 8 {
			n |= uint64(s[55+i]) << (8 * i)
		}
		if s[63] == 1 && s[54] >= 1 && s[54] <= 8 && s[53] <= 1 && (!is || n > b.generation) {
			is = true
			b.generation, b.offices, b.half = n, int(s[54]), int(s[53])
		}
	}
	if !is || b.sectors < 4 {
		return draft{}, api.ErrDisk
	}
	rest := pages[64*b.start(b.half):][:64*b.h()]
	for len(rest) > 0 {
		n := int(rest[0]) + int(rest[1])<<8 + int(rest[2])<<16 + int(rest[3])<<24
		size := 64 * (1 + (n+4)/64)
		if rest[63] != 1 || n < 2 || n > 2402 || size > len(rest) {
			break
		}
		payload := rest[4:63] + rest[64:size]
		x := e(int(payload[0]), int(payload[1]), payload[2:n])
		if !b.isChange(x) {
			break
		}
		b = b.with(x)
		rest = rest[size:]
	}
	return b, api.OK
}

// made returns a disk and a book on it.
func made(t testing.TB, sectors, offices int) (*journal.Disk, *journal.Book) {
	t.Helper()
	d, err := journal.NewDisk(sectors)
	if err != api.OK {
		t.Fatal(err)
	}
	b, err := journal.Make(d, offices)
	if err != api.OK {
		t.Fatal(err)
	}
	return d, b
}

// filled returns a book on a disk of 4096 sectors that has taken entries.
func filled(t testing.TB, offices int, l []api.Entry) *journal.Book {
	t.Helper()
	_, b := made(t, api.MaxSectors, offices)
	if _, err := b.Take(l); err != api.OK {
		t.Fatal(err)
	}
	return b
}

// isOf fails unless a book is just as a draft says.
func isOf(t testing.TB, b *journal.Book, want draft) {
	t.Helper()
	if l := want.entries(); !slices.Equal(b.All(), l) || b.Room() != want.room() || b.Offices() != want.offices {
		t.Fatal(b.All(), b.Room(), b.Offices(), l, want.room(), want.offices)
	}
}

// aBody returns a body: of few letters, and of lengths at which the sectors of a record become more.
func aBody(x *noise, most int) string {
	n := one(x, 0, 1, 1, 1, 2, 3, x.below(20), 56, 57, 58, 59, 120, 121, 122, x.below(200), x.below(700), 2400)
	letters := make([]byte, min(n, most))
	for i := range letters {
		letters[i] = one[byte](x, 'a', 'b', 'b', 0, 1, 1, 255)
	}
	return string(letters)
}

// anEntry returns an entry that may be at a place of a book, or close to one.
func anEntry(x *noise, b draft, most int) api.Entry {
	office := x.below(b.offices)
	no := len(byOffice(b.entries(), office))
	no = one(x, no, no, no, no+1, max(0, no-1), x.below(no+1))
	if x.below(60) == 0 {
		return one(x, e(b.offices, 0, "a"), e(-1, no, "a"), e(office, -1, "a"), e(office, no, strings.Repeat("\x00", 2401)), e(office, 64, ""), e(9, 0, ""))
	}
	return e(office, no, aBody(x, most))
}

// someEntries returns entries for a Take.
func someEntries(x *noise, b draft, most int) []api.Entry {
	var l []api.Entry
	for range x.below(6) {
		l = append(l, anEntry(x, b, most))
		if last := l[len(l)-1]; x.below(3) == 0 {
			l = append(l, e(last.Office, last.No+1, aBody(x, most)), e(last.Office, last.No, aBody(x, most)))
		}
	}
	return shuffled(x, l)
}

// aDeed returns a deed for a book.
func aDeed(x *noise, b draft, most int) deed {
	switch x.below(8) {
	case 0, 1, 2:
		return deed{"add", []api.Entry{anEntry(x, b, most)}}
	case 3, 4, 5, 6:
		return deed{"take", someEntries(x, b, most)}
	}
	return deed{kind: "compact"}
}
