package journal_test

import (
	"slices"
	"strings"
	"testing"

	"bonehouse/api"
	"bonehouse/journal"
)

// P9.4: the chapter's example, and what stands on the disk behind it.
func TestCompact(t *testing.T) {
	d, b := made(t, 12, 2)
	isOK(t, b.Add(e(0, 0, "a")))
	isOK(t, b.Add(e(0, 1, strings.Repeat("l", 58))))
	if n, err := b.Take([]api.Entry{e(0, 0, "A")}); n != 1 || err != api.OK || b.Room() != 1 {
		t.Error(n, err, b.Room())
	}
	want := []api.Entry{e(0, 0, "A"), e(0, 1, strings.Repeat("l", 58))}
	for i, x := range []struct {
		more, sector, half int
		generation         byte
	}{{1, 0, 1, 2}, {0, 1, 0, 3}, {0, 0, 1, 4}} {
		if n, err := b.Compact(); n != x.more || err != api.OK || b.Room() != 2 || !slices.Equal(b.All(), want) || b.Offices() != 2 {
			t.Error(i, n, err, b.Room(), b.All())
		}
		has(t, d, x.sector, strings.Repeat("\x00", 53)+string([]byte{byte(x.half), 2, x.generation})+strings.Repeat("\x00", 7)+"\x01")
		from := 2 + 5*x.half
		for k, s := range slices.Concat(recordOf(want[0]), recordOf(want[1]), []string{full("\x00")}) {
			has(t, d, from+k, s)
		}
	}
}

// P9.4: a half is written in whole, or not at all; what is behind the zeros stays.
func TestCompactLeaves(t *testing.T) {
	for sectors := 4; sectors <= 9; sectors++ {
		y := newDesk(t, sectors, 1)
		for at := y.draft.start(1); at < sectors; at++ {
			isOK(t, y.disk.Write(at, full("left")))
			isOK(t, y.paper.do(call{at, full("left")}))
		}
		for no := 0; y.draft.room() > 0; no++ {
			y.do(deed{"add", []api.Entry{e(0, no, "b")}})
			y.do(deed{kind: "compact"})
			y.do(deed{kind: "compact"})
		}
		y.do(deed{kind: "compact"})
	}
}

// P9.4: the generation goes around.
func TestGenerations(t *testing.T) {
	for _, generation := range []uint64{0, 1, 254, 255, 256, 1<<16 - 1, 1<<32 - 1, 1<<56 - 1, 1<<63 - 1, 1 << 63, 1<<64 - 2, 1<<64 - 1} {
		d := newDisk(t, 12)
		b := draft{sectors: 12, offices: 3, generation: generation}
		isOK(t, d.Write(int(generation%2), b.headOf()))
		isOK(t, d.Write(2, recordOf(e(0, 0, "a"))[0]))
		o, err := journal.Open(d)
		isOK(t, err)
		if n, err := o.Compact(); n != 0 || err != api.OK {
			t.Error(n, err)
		}
		b.generation++
		b.half = 1
		has(t, d, int(b.generation%2), b.headOf())
		if !slices.Equal(o.All(), []api.Entry{e(0, 0, "a")}) {
			t.Error(o.All())
		}
	}
}

// P9.8: a Compact changes nothing that a book has; behind it there are as many sectors of records as the entries need; a second one changes Room by 0.
func TestCompactTwice(t *testing.T) {
	x := noise(5)
	more := 0
	for range 600 {
		y := newDesk(t, x.from(4, 120), x.from(1, 8))
		for range x.below(20) {
			y.do(aDeed(&x, y.draft, one(&x, 5, 200, 2400)))
		}
		was, room := y.book.All(), y.book.Room()
		n, err := y.book.Compact()
		isOK(t, err)
		if y.book.Room() != room+n || y.book.Room() != y.draft.h()-sizeOf(was) || n < 0 {
			t.Fatal(n, room, y.book.Room())
		}
		more += n
		again, err := y.book.Compact()
		if again != 0 || err != api.OK || y.book.Room() != room+n || !slices.Equal(y.book.All(), was) {
			t.Fatal(again, err)
		}
		o, err := journal.Open(y.disk)
		isOK(t, err)
		if !slices.Equal(o.All(), was) || o.Room() != room+n {
			t.Fatal(o.All(), was)
		}
	}
	if more < 300 {
		t.Error(more)
	}
}
