package journal_test

import (
	"math"
	"slices"
	"strings"
	"testing"

	"bonehouse/api"
	"bonehouse/journal"
)

// desk is a disk with a book, and what both are by the chapter's words.
type desk struct {
	t     testing.TB
	disk  *journal.Disk
	book  *journal.Book
	paper *paper
	draft draft
}

// newDesk returns a desk with a book that was made.
func newDesk(t testing.TB, sectors, offices int) *desk {
	t.Helper()
	d, b := made(t, sectors, offices)
	y := &desk{t: t, disk: d, book: b, paper: newPaper(sectors)}
	var calls []call
	y.draft, calls = drawn(sectors, offices)
	for _, c := range calls {
		isOK(t, y.paper.do(c))
	}
	return y
}

// arm has the power go off at the n-th call.
func (y *desk) arm(n int) {
	y.disk.Arm(n)
	y.paper.armed = n
}

// run returns what a deed returns.
func (y *desk) run(x deed) (int, api.Errno) {
	switch x.kind {
	case "add":
		return 0, y.book.Add(x.l[0])
	case "take":
		l := slices.Clone(x.l)
		n, err := y.book.Take(l)
		if !slices.Equal(l, x.l) {
			y.t.Fatal("Take has changed its argument")
		}
		clear(l) // the book does not keep it
		return n, err
	}
	return y.book.Compact()
}

// do does a deed, fails unless all is as the chapter says, and returns the books that the steps lead through, from that ahead of it on; and its error.
func (y *desk) do(x deed) ([]draft, api.Errno) {
	y.t.Helper()
	steps, n, err := y.draft.steps(x)
	path := []draft{y.draft}
	for _, s := range steps {
		path = append(path, s.then)
	}
	for _, s := range steps {
		for _, c := range s.calls {
			if y.paper.do(c) != api.OK {
				n, err = 0, api.ErrDown
				break
			}
		}
		if err == api.ErrDown {
			break
		}
		y.draft = s.then
	}
	gotN, got := y.run(x)
	if gotN != n || got != err {
		y.t.Fatal(x, gotN, n, got, err)
	}
	y.check()
	return path, err
}

// check fails unless the book and the disk are as the chapter says.
func (y *desk) check() {
	y.t.Helper()
	isOf(y.t, y.book, y.draft)
	if y.disk.Up() == y.paper.isOff {
		y.t.Fatal("power")
	}
	if y.disk.Up() && pagesOf(y.t, y.disk) != y.paper.pages() {
		y.t.Fatalf("%q\n%q", pagesOf(y.t, y.disk), y.paper.pages())
	}
}

// restart turns the power on again, and opens the book.
func (y *desk) restart(keep string) {
	y.t.Helper()
	y.disk.Restart(keep)
	y.paper.restart(keep)
	stale := y.book
	pages := y.paper.pages()
	want, wantErr := drafted(pages)
	b, err := journal.Open(y.disk)
	if err != wantErr || (b == nil) != (err != api.OK) {
		y.t.Fatal(err, wantErr)
	}
	if n, down := stale.Compact(); n != 0 || down != api.ErrDown {
		y.t.Fatal("the book of before", n, down)
	}
	if b != nil {
		y.book, y.draft = b, want
	}
	y.check()
}

// P9.3: Make.
func TestMake(t *testing.T) {
	off, small := newDisk(t, 12), newDisk(t, 3)
	off.Arm(1)
	off.Sync()
	d := newDisk(t, 12)
	for i, x := range []struct {
		d       *journal.Disk
		offices int
		want    api.Errno
	}{
		{nil, 1, api.ErrArg}, {nil, 0, api.ErrArg},
		{d, 0, api.ErrArg}, {d, -1, api.ErrArg}, {d, 9, api.ErrArg}, {d, math.MaxInt, api.ErrArg}, {d, math.MinInt, api.ErrArg},
		{off, 9, api.ErrArg}, {small, 0, api.ErrArg},
		{off, 1, api.ErrDown},
		{small, 1, api.ErrFull}, {newDisk(t, 1), 8, api.ErrFull}, {newDisk(t, 2), 8, api.ErrFull},
	} {
		if b, err := journal.Make(x.d, x.offices); b != nil || err != x.want {
			t.Error(i, err)
		}
	}
	if pagesOf(t, d) != strings.Repeat("\x00", 12*64) || pagesOf(t, small) != strings.Repeat("\x00", 3*64) {
		t.Error("something was written")
	}
	small.Arm(1)
	small.Sync()
	if b, err := journal.Make(small, 1); b != nil || err != api.ErrDown {
		t.Error(err)
	}
	for sectors := 4; sectors <= 13; sectors++ {
		for offices := 1; offices <= 8; offices++ {
			_, b := made(t, sectors, offices)
			want, _ := drawn(sectors, offices)
			isOf(t, b, want)
		}
	}
}

// P9.3: what Make writes, in order, on a disk that was used; the first error ends it.
func TestMakeWrites(t *testing.T) {
	for _, keep := range []string{"", "\x40\x40\x40", "\x00\x40", "\x40\x00\x40", "\x3f", "\x01\x01\x05", "\x36"} {
		for n := range 8 {
			d, p := newDisk(t, 6), newPaper(6)
			for at := range 6 {
				isOK(t, d.Write(at, full("used")))
				isOK(t, p.do(call{at, full("used")}))
			}
			isOK(t, d.Sync())
			isOK(t, p.do(syncs()))
			d.Arm(n)
			p.armed = n
			_, calls := drawn(6, 3)
			var want api.Errno
			for _, c := range calls {
				if want == api.OK {
					want = p.do(c)
				}
			}
			b, err := journal.Make(d, 3)
			if err != want || (b == nil) != (err != api.OK) || (err != api.OK) != (1 <= n && n <= 6) {
				t.Fatal(n, err, want)
			}
			d.Restart(keep)
			p.restart(keep)
			if pagesOf(t, d) != p.pages() {
				t.Errorf("%d %q: %q\n%q", n, keep, pagesOf(t, d), p.pages())
			}
		}
	}
}

// P9.3: errors of Open.
func TestOpenErrors(t *testing.T) {
	off, small := newDisk(t, 12), newDisk(t, 3)
	off.Arm(1)
	off.Sync()
	b, _ := drawn(3, 1)
	isOK(t, small.Write(1, b.headOf()))
	for i, x := range []struct {
		d    *journal.Disk
		want api.Errno
	}{{nil, api.ErrArg}, {off, api.ErrDown}, {small, api.ErrDisk}, {newDisk(t, 1), api.ErrDisk}, {newDisk(t, 12), api.ErrDisk}} {
		if b, err := journal.Open(x.d); b != nil || err != x.want {
			t.Error(i, err)
		}
	}
	small.Arm(1)
	small.Sync()
	if b, err := journal.Open(small); b != nil || err != api.ErrDown {
		t.Error(err)
	}
}

// P9.3: which heads are there, and which of two counts.
func TestHeads(t *testing.T) {
	head := func(half, offices byte, generation string) string {
		return strings.Repeat("x", 53) + string([]byte{half, offices}) + generation + "\x01"
	}
	const one, two, most, high = "\x01\x00\x00\x00\x00\x00\x00\x00", "\x02\x00\x00\x00\x00\x00\x00\x00", "\xff\xff\xff\xff\xff\xff\xff\xff", "\x00\x00\x00\x00\x00\x00\x00\x80"
	none := full("\x00")
	for i, x := range []struct {
		zero, one     string
		offices, half int // offices 0: there is none
	}{
		{none, none, 0, 0},
		{head(0, 3, one), none, 3, 0},
		{none, head(1, 8, two), 8, 1},
		{head(0, 0, one), none, 0, 0},
		{head(0, 9, one), none, 0, 0},
		{head(0, 255, one), none, 0, 0},
		{head(2, 1, one), none, 0, 0},
		{head(255, 1, one), none, 0, 0},
		{head(0, 1, one)[:63] + "\x00", none, 0, 0},
		{head(0, 1, one)[:63] + "\x02", none, 0, 0},
		{head(0, 1, one)[:63] + "\xff", none, 0, 0},
		{head(0, 4, one), head(1, 5, one), 4, 0},
		{head(0, 4, one), head(1, 5, two), 5, 1},
		{head(0, 4, two), head(1, 5, one), 4, 0},
		{head(0, 4, two), head(1, 5, high), 5, 1},
		{head(0, 4, high), head(1, 5, one), 4, 0},
		{head(0, 4, none[:8]), head(1, 5, most), 5, 1},
		{head(0, 4, most), head(1, 5, high), 4, 0},
		{head(0, 4, none[:8]), head(1, 5, none[:8]), 4, 0},
		{head(0, 9, most), head(1, 5, one), 5, 1},
		{head(0, 4, one), head(1, 0, most), 4, 0},
		{head(0, 4, one), head(2, 5, most), 4, 0},
	} {
		d := newDisk(t, 12)
		isOK(t, d.Write(0, x.zero))
		isOK(t, d.Write(1, x.one))
		isOK(t, d.Write(2, recordOf(e(0, 0, "low"))[0]))
		isOK(t, d.Write(7, recordOf(e(0, 0, "high"))[0]))
		b, err := journal.Open(d)
		if x.offices == 0 {
			if b != nil || err != api.ErrDisk {
				t.Error(i, err)
			}
			continue
		}
		want := []string{"low", "high"}[x.half]
		if err != api.OK || b.Offices() != x.offices || b.Room() != 4 || !slices.Equal(b.All(), []api.Entry{e(0, 0, want)}) {
			t.Error(i, err, b)
		}
	}
}

// P9.3: which records can be read.
func TestRecords(t *testing.T) {
	at := func(s string, i int, b byte) string { return s[:i] + string([]byte{b}) + s[i+1:] }
	record := func(x api.Entry) string { return strings.Join(recordOf(x), "") }
	a := record(e(0, 0, "a"))
	long := record(e(0, 0, full("l"))) // of two sectors
	for i, x := range []struct {
		half string // its beginning; behind it stand other bytes that are no record
		want []api.Entry
		room int
	}{
		{"", nil, 5},
		{a, []api.Entry{e(0, 0, "a")}, 4},
		{at(a, 63, 0), nil, 5}, {at(a, 63, 2), nil, 5}, {at(a, 63, 255), nil, 5},
		{at(a, 0, 0), nil, 5}, {at(a, 0, 1), nil, 5}, // too short
		{at(a, 0, 2), []api.Entry{e(0, 0, "")}, 4},
		{at(a, 0, 4), []api.Entry{e(0, 0, "a\x00")}, 4},
		{at(a, 62, 9), []api.Entry{e(0, 0, "a")}, 4},                           // what follows the payload is not looked at
		{at(a, 3, 1), nil, 5}, {at(a, 2, 1), nil, 5}, {at(a, 3, 0x80), nil, 5}, // too long
		{at(a, 5, 64), nil, 5}, {at(a, 5, 1), nil, 5}, {at(a, 4, 2), nil, 5}, {at(a, 4, 255), nil, 5},
		{at(a, 4, 1), []api.Entry{e(1, 0, "a")}, 4},
		{a + a, []api.Entry{e(0, 0, "a")}, 4},                    // the second one changes nothing
		{a + record(e(0, 0, "b")), []api.Entry{e(0, 0, "a")}, 4}, // nor does this one
		{a + record(e(0, 0, "A")), []api.Entry{e(0, 0, "A")}, 3}, // this one does
		{a + record(e(0, 0, "")), []api.Entry{e(0, 0, "")}, 3},   // and this one
		{a + record(e(0, 2, "c")), []api.Entry{e(0, 0, "a")}, 4}, // here is a gap
		{record(e(0, 1, "b")) + a, nil, 5},                       // and here
		{a + record(e(0, 1, "b")), []api.Entry{e(0, 0, "a"), e(0, 1, "b")}, 3},
		{record(e(1, 0, "b")) + a, []api.Entry{e(0, 0, "a"), e(1, 0, "b")}, 3},
		{a + full("\x00") + record(e(0, 1, "b")), []api.Entry{e(0, 0, "a")}, 4}, // what is behind is not read
		{long + record(e(0, 0, "b")), []api.Entry{e(0, 0, "b")}, 2},
		{long + record(e(0, 0, full("l")+"z")), []api.Entry{e(0, 0, full("l"))}, 3}, // a greater Body
		{a + record(e(1, 0, full("l"))) + record(e(1, 1, full("k"))), []api.Entry{e(0, 0, "a"), e(1, 0, full("l")), e(1, 1, full("k"))}, 0},
		{a + record(e(0, 1, full("l"))) + record(e(1, 0, "c")) + record(e(1, 1, full("k"))), []api.Entry{e(0, 0, "a"), e(0, 1, full("l")), e(1, 0, "c")}, 1}, // the last one goes beyond the half
		{record(e(0, 0, strings.Repeat("b", 5*64-7))), []api.Entry{e(0, 0, strings.Repeat("b", 5*64-7))}, 0},
		{record(e(0, 0, strings.Repeat("b", 5*64-6))), nil, 5}, // of six sectors
	} {
		for _, half := range []int{0, 1} {
			d, _ := made(t, 13, 2)
			book, _ := drawn(13, 2)
			book.half = half
			isOK(t, d.Write(1, book.headOf()))
			for n := range 11 {
				isOK(t, d.Write(2+n, full("?")))
			}
			for n := 0; n < len(x.half); n += 64 {
				isOK(t, d.Write(2+5*half+n/64, x.half[n:][:64]))
			}
			b, err := journal.Open(d)
			if err != api.OK || !slices.Equal(b.All(), x.want) || b.Room() != x.room || b.Offices() != 2 {
				t.Error(i, half, err, b.All(), b.Room())
			}
		}
	}
}

// P9.3: the least and the greatest payload of a record that can be read.
func TestLongRecords(t *testing.T) {
	for _, n := range []int{0, 1, 57, 58, 121, 122, 2399, 2400, 2401, 2500} {
		x := e(7, 0, strings.Repeat("n", n))
		d := newDisk(t, 100)
		b, _ := drawn(100, 8)
		isOK(t, d.Write(1, b.headOf()))
		l := recordOf(x)
		for i, s := range l {
			isOK(t, d.Write(2+i, s))
		}
		want, room := []api.Entry{x}, 49-len(l)
		if n > 2400 {
			want, room = nil, 49
		}
		o, err := journal.Open(d)
		if err != api.OK || !slices.Equal(o.All(), want) || o.Room() != room {
			t.Error(n, err, o.Room())
		}
	}
}

// P9.3: what Open reads of a disk on which something was changed.
func TestOpenModel(t *testing.T) {
	x := noise(3)
	seen := map[string]int{}
	for range 3000 {
		y := newDesk(t, x.from(4, 30), x.from(1, 3))
		for range x.below(8) {
			y.do(aDeed(&x, y.draft, 150))
		}
		for range x.below(4) {
			at, s := x.below(y.draft.sectors), ""
			if s = y.paper.read(at); x.below(5) == 0 {
				s = y.paper.read(x.below(y.draft.sectors))
			}
			i := one(&x, 0, 0, 1, 3, 4, 5, 5, 6, 53, 54, 55, 62, 63, x.below(64))
			s = s[:i] + string([]byte{one[byte](&x, 0, 1, 2, 3, s[i]+1, s[i]-1, byte(x.next()))}) + s[i+1:]
			isOK(t, y.disk.Write(at, s))
			isOK(t, y.paper.do(call{at, s}))
		}
		want, wantErr := drafted(y.paper.pages())
		b, err := journal.Open(y.disk)
		if err != wantErr {
			t.Fatal(err, wantErr)
		}
		if err != api.OK {
			seen["none"]++
			continue
		}
		isOf(t, b, want)
		if len(b.All()) != len(y.book.All()) {
			seen["others"]++
		}
		if len(b.All()) > 0 {
			seen["some"]++
		}
		y.book, y.draft = b, want // it goes on from there
		if b.Offices() == want.offices {
			for range 3 {
				y.do(aDeed(&x, y.draft, 150))
			}
		}
	}
	for s, n := range map[string]int{"none": 50, "others": 200, "some": 1000} {
		if seen[s] < n {
			t.Error(s, seen[s])
		}
	}
}

// P9.3: errors of Add, in order.
func TestAdd(t *testing.T) {
	y := newDesk(t, 12, 2)
	add := func(x api.Entry) deed { return deed{"add", []api.Entry{x}} }
	long := e(0, 1, strings.Repeat("l", 58)) // of two sectors
	for i, x := range []struct {
		e    api.Entry
		want api.Errno
		room int
	}{
		{e(0, 1, "b"), api.ErrEntry, 5},
		{e(0, 0, "m"), api.OK, 4},
		{e(0, 0, "m"), api.OK, 4},
		{e(0, 0, "a"), api.ErrEntry, 4}, {e(0, 0, "z"), api.ErrEntry, 4}, {e(0, 2, "m"), api.ErrEntry, 4},
		{e(2, 0, "m"), api.ErrEntry, 4}, {e(8, 0, "m"), api.ErrEntry, 4}, {e(-1, 0, "m"), api.ErrEntry, 4}, {e(1, -1, "m"), api.ErrEntry, 4}, {e(1, 64, "m"), api.ErrEntry, 4},
		{e(1, 0, strings.Repeat("a", 2401)), api.ErrEntry, 4},
		{e(1, 0, strings.Repeat("a", 4*64-6)), api.ErrFull, 4},
		{e(1, 1, strings.Repeat("a", 4*64-6)), api.ErrEntry, 4}, // ahead of ErrFull
		{long, api.OK, 2},
		{e(1, 0, strings.Repeat("a", 2*64-7)), api.OK, 0}, // just as much as there is
		{e(1, 1, ""), api.ErrFull, 0},
		{e(1, 0, strings.Repeat("a", 2*64-7)), api.OK, 0}, {long, api.OK, 0}, {e(0, 0, "m"), api.OK, 0}, // these it has
		{e(1, 2, ""), api.ErrEntry, 0},
	} {
		if _, err := y.do(add(x.e)); err != x.want || y.book.Room() != x.room {
			t.Error(i, err, y.book.Room())
		}
	}
	y.disk.Restart("")
	for _, x := range []api.Entry{e(0, 0, "m"), e(9, 0, "m"), e(0, 7, "m"), e(1, 1, "")} {
		if err := y.book.Add(x); err != api.ErrDown {
			t.Error(x, err)
		}
	}
}

// P9.3: 64 entries of an office, and no more.
func TestAddAll(t *testing.T) {
	_, b := made(t, 2+2*8*64, 8)
	for office := range 8 {
		for no := range 64 {
			isOK(t, b.Add(e(office, no, strings.Repeat("n", no%58))))
		}
		if err := b.Add(e(office, 64, "")); err != api.ErrEntry {
			t.Error(err)
		}
	}
	if len(b.All()) != 512 || b.Room() != 0 {
		t.Error(len(b.All()), b.Room())
	}
	all := b.All()
	for i := range all {
		all[i].Body = ""
	}
	if n, err := b.Take(all); n != 0 || err != api.ErrFull {
		t.Error(n, err)
	}
}

// P9.3: Take, and which entries it considers.
func TestTake(t *testing.T) {
	take := func(l ...api.Entry) deed { return deed{"take", l} }
	y := newDesk(t, 16, 2) // h is 7
	tooLong := strings.Repeat("\x00", 2401)
	for i, x := range []struct {
		d    deed
		want int
		err  api.Errno
		room int
	}{
		{take(), 0, 0, 7},
		{take(invalid()...), 0, 0, 7},
		{take(e(2, 0, "a"), e(7, 0, "a"), e(0, 1, "a")), 0, 0, 7}, // of no office of the book, or behind a gap
		{take(e(0, 1, "n"), e(0, 0, "m"), e(0, 0, "m")), 2, 0, 5}, // the second one comes first
		{take(e(0, 0, "z"), e(0, 0, "m"), e(0, 1, "o")), 0, 0, 5},
		{take(e(0, 0, "l"), e(0, 0, "k"), e(0, 0, "kk")), 1, 0, 4},
		{take(e(0, 1, tooLong), e(0, 1, "a")), 1, 0, 3}, // the one that is not valid does not count
		{take(e(0, 2, tooLong)), 0, 0, 3},
		{take(e(1, 0, "p"), e(0, 3, "q"), e(0, 5, "r")), 1, 0, 2}, // 3 and 5 have gaps ahead of them
		{take(e(1, 0, "A"), e(0, 0, strings.Repeat("B", 122))), 0, api.ErrFull, 2},
		{take(e(1, 1, strings.Repeat("s", 58)), e(1, 0, "o")), 0, api.ErrFull, 1}, // the one ahead of it stays
		{take(e(0, 2, ""), e(1, 0, "")), 0, api.ErrFull, 0},
		{take(e(0, 2, "")), 0, 0, 0},
		{take(e(0, 2, "x"), e(0, 4, "")), 0, 0, 0},
		{take(e(0, 2, "x"), e(0, 3, "")), 0, api.ErrFull, 0},
		{take(e(1, 0, "")), 0, api.ErrFull, 0},
	} {
		if _, err := y.do(x.d); err != x.err || y.book.Room() != x.room {
			t.Error(i, err, y.book.Room())
		}
	}
	if l := y.book.All(); !slices.Equal(l, []api.Entry{e(0, 0, "k"), e(0, 1, "a"), e(0, 2, ""), e(1, 0, "o")}) {
		t.Error(l)
	}
	y.disk.Restart("")
	for _, l := range [][]api.Entry{nil, invalid(), {e(0, 0, "")}} {
		if n, err := y.book.Take(l); n != 0 || err != api.ErrDown {
			t.Error(n, err)
		}
	}
}

// P9.3 and P9.4: books and their disks are as the chapter says, to the last byte, whatever is called.
func TestBookModel(t *testing.T) {
	x := noise(4)
	seen := map[string]int{}
	for range 1200 {
		most := one(&x, 5, 70, 200, 2400)
		y := newDesk(t, x.from(4, one(&x, 8, 30, 120)), x.from(1, 4))
		for range 30 {
			d := aDeed(&x, y.draft, most)
			path, err := y.do(d)
			switch {
			case err == api.ErrFull:
				seen["full "+d.kind]++
			case err == api.ErrEntry:
				seen["entry"]++
			case len(path) > 2:
				seen["several"]++
			case len(path) == 2:
				seen[d.kind]++
			}
			if x.below(10) == 0 {
				b, err := journal.Open(y.disk)
				isOK(t, err)
				y.book = b
				y.check()
			}
		}
	}
	for s, n := range map[string]int{"full add": 1000, "full take": 1000, "entry": 1000, "several": 1000, "add": 1000, "take": 500, "compact": 1000} {
		if seen[s] < n {
			t.Error(s, seen[s])
		}
	}
}

// P9.3: a book whose power has gone off is not written any more, though the power is on again.
func TestStaleBooks(t *testing.T) {
	for i, off := range []func(d *journal.Disk){
		func(d *journal.Disk) { d.Restart("") },
		func(d *journal.Disk) { d.Arm(1); d.Sync() },
		func(d *journal.Disk) { d.Arm(1); d.Sync(); d.Restart("") },
		func(d *journal.Disk) { d.Arm(1); d.Write(4, full("\x00")); d.Restart("\x40") },
		func(d *journal.Disk) { d.Restart(""); d.Restart("") },
	} {
		d, b := made(t, 12, 1)
		isOK(t, b.Add(e(0, 0, "b")))
		o, err := journal.Open(d)
		isOK(t, err)
		off(d)
		for _, b := range []*journal.Book{b, o} {
			if err := b.Add(e(0, 1, "a")); err != api.ErrDown {
				t.Error(i, err)
			}
			if n, err := b.Take([]api.Entry{e(0, 0, "a")}); n != 0 || err != api.ErrDown {
				t.Error(i, n, err)
			}
			if n, err := b.Compact(); n != 0 || err != api.ErrDown {
				t.Error(i, n, err)
			}
			if b.Room() != 4 || b.Offices() != 1 || !slices.Equal(b.All(), []api.Entry{e(0, 0, "b")}) {
				t.Error(i, b.All(), b.Room())
			}
		}
		d.Restart("")
		c, err := journal.Open(d)
		isOK(t, err)
		isOK(t, c.Add(e(0, 1, "a")))
		if n, err := c.Compact(); n != 0 || err != api.OK || c.Room() != 3 {
			t.Error(i, n, err)
		}
	}
	d := newDisk(t, 12)
	d.Arm(1)
	d.Sync()
	d.Restart("") // what was ahead of Make does not count
	b, err := journal.Make(d, 1)
	isOK(t, err)
	isOK(t, b.Add(e(0, 0, "b")))
}

// P9.3 to P9.6: a book that was neither made nor opened panics nowhere.
func TestNoBook(t *testing.T) {
	for _, b := range []*journal.Book{nil, {}} {
		if b.Offices() != 0 || b.Room() != 0 || len(b.All()) != 0 || len(b.Begin()) != 0 {
			t.Error(b)
		}
		if n, err := b.Take([]api.Entry{e(0, 0, "")}); n != 0 || err != api.ErrDown {
			t.Error(n, err)
		}
		if n, err := b.Compact(); n != 0 || err != api.ErrDown || b.Add(e(0, 0, "")) != api.ErrDown {
			t.Error(n, err)
		}
		if l, err := b.Entries(0); len(l) != 0 || err != api.ErrArg {
			t.Error(l, err)
		}
		if y := b.Tally(); len(y.Have) != 0 || len(y.Sums) != 0 {
			t.Error(y)
		}
		if l, err := b.Wanted(api.Tally{Have: []int{0}, Sums: []uint64{0}}); len(l) != 0 || err != api.ErrArg {
			t.Error(l, err)
		}
		if n, err := b.Digest(0, 0, 64); n != 0 || err != api.ErrArg {
			t.Error(n, err)
		}
		if l, sent, err := b.Answer([]api.Ask{{To: 64}}); len(l) != 0 || len(sent) != 0 || err != api.ErrArg {
			t.Error(l, sent, err)
		}
	}
}
