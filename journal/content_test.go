package journal_test

import (
	"math"
	"slices"
	"testing"

	"bonehouse/api"
	"bonehouse/journal"
)

// aBook returns a book, and what it has.
func aBook(t testing.TB, x *noise, offices int) (*journal.Book, []api.Entry) {
	t.Helper()
	l := listFor(x, offices)
	return filled(t, offices, l), l
}

// listFor returns entries of offices without gaps, by office, then by number.
func listFor(x *noise, offices int) []api.Entry {
	var l []api.Entry
	for office := range offices {
		for no := range one(x, 0, 1, 2, 5, x.below(20), x.below(65)) {
			l = append(l, e(office, no, one(x, "a", "a", "a", "b", aBody(x, 70))))
		}
	}
	return l
}

// like returns entries that differ from others at a few places.
func like(x *noise, l []api.Entry, offices int) []api.Entry {
	l = slices.Clone(l)
	for range x.below(5) {
		if len(l) > 0 {
			l[x.below(len(l))].Body = one(x, "", "a", "b", aBody(x, 70))
		}
	}
	for office := range offices {
		count := len(byOffice(l, office))
		for no := count - 1; no >= max(0, count-x.below(3)); no-- {
			l = slices.Delete(l, having(l, e(office, no, "")), having(l, e(office, no, ""))+1)
		}
	}
	return l
}

// tallyOf returns the tally of entries.
func tallyOf(l []api.Entry, offices int) api.Tally {
	var t api.Tally
	for office := range offices {
		some := byOffice(l, office)
		t.Have = append(t.Have, len(some))
		t.Sums = append(t.Sums, sumOf(some))
	}
	return t
}

// wantedOf returns the entries that a book with a tally wants.
func wantedOf(l []api.Entry, offices int, t api.Tally) []api.Entry {
	var wanted []api.Entry
	for office := range offices {
		some := byOffice(l, office)
		if n := t.Have[office]; n <= len(some) && t.Sums[office] == sumOf(some[:n]) {
			some = some[n:]
		}
		wanted = append(wanted, some...)
	}
	return wanted
}

// sameTally reports whether two tallies are the same.
func sameTally(a, b api.Tally) bool {
	return slices.Equal(a.Have, b.Have) && slices.Equal(a.Sums, b.Sums)
}

// P9.5: Entries, All and Tally, with and without power.
func TestContents(t *testing.T) {
	x := noise(9)
	for range 150 {
		offices := x.from(1, 8)
		l := listFor(&x, offices)
		d, b := made(t, api.MaxSectors, offices)
		if _, err := b.Take(shuffled(&x, l)); err != api.OK {
			t.Fatal(err)
		}
		if x.below(2) == 0 {
			d.Arm(1)
			d.Sync()
		}
		for range 2 {
			all := b.All()
			if !slices.Equal(all, l) {
				t.Fatal(all, l)
			}
			for office := range offices {
				some, err := b.Entries(office)
				if !slices.Equal(some, byOffice(l, office)) || err != api.OK {
					t.Fatal(office, some, err)
				}
				clear(some) // what was returned is not the book's
			}
			clear(all)
			tally := b.Tally()
			if !sameTally(tally, tallyOf(l, offices)) {
				t.Fatal(tally)
			}
			clear(tally.Have)
			clear(tally.Sums)
		}
		for _, office := range []int{-1, offices, 8, math.MinInt, math.MaxInt} {
			if some, err := b.Entries(office); len(some) != 0 || err != api.ErrArg {
				t.Fatal(office, some, err)
			}
		}
	}
}

// P9.5: a tally of an empty book.
func TestTallyOfNothing(t *testing.T) {
	_, b := made(t, 4, 3)
	if y := b.Tally(); !sameTally(y, tallyOf(nil, 3)) || len(y.Have) != 3 {
		t.Error(y)
	}
	if l := b.All(); len(l) != 0 {
		t.Error(l)
	}
}

// P9.5: Wanted.
func TestWanted(t *testing.T) {
	x := noise(10)
	seen := map[string]int{}
	for range 400 {
		offices := x.from(1, 8)
		b, l := aBook(t, &x, offices)
		for range 4 {
			tally := tallyOf(like(&x, l, offices), offices)
			if x.below(3) == 0 {
				tally.Have[x.below(offices)] = one(&x, 0, 1, 64, 65, math.MaxInt, x.below(65))
			}
			if x.below(3) == 0 {
				tally.Sums[x.below(offices)] = one(&x, 0, sumOf(nil), x.next())
			}
			was := api.Tally{Have: slices.Clone(tally.Have), Sums: slices.Clone(tally.Sums)}
			want := wantedOf(l, offices, tally)
			got, err := b.Wanted(tally)
			if !slices.Equal(got, want) || err != api.OK || !sameTally(tally, was) {
				t.Fatal(tally, got, want, err)
			}
			clear(got)
			if !slices.Equal(b.All(), l) {
				t.Fatal("the book was changed")
			}
			if len(want) > 0 && len(want) < len(l) {
				seen["some"]++
			}
		}
		bad := tallyOf(l, offices)
		switch x.below(5) {
		case 0:
			bad.Have[x.below(offices)] = one(&x, -1, math.MinInt)
		case 1:
			bad.Have = bad.Have[1:]
		case 2:
			bad.Sums = bad.Sums[1:]
		case 3:
			bad.Have = append(bad.Have, 0)
		case 4:
			bad.Sums = append(bad.Sums, 0)
		}
		if got, err := b.Wanted(bad); len(got) != 0 || err != api.ErrArg {
			t.Fatal(bad, got, err)
		}
	}
	if seen["some"] < 300 {
		t.Error(seen["some"])
	}
}

// P9.5: Wanted by an example.
func TestWantedExample(t *testing.T) {
	l := []api.Entry{e(0, 0, "a"), e(0, 1, "b"), e(1, 0, "c")}
	d, b := made(t, 20, 2)
	if _, err := b.Take(l); err != api.OK {
		t.Fatal(err)
	}
	d.Arm(1)
	d.Sync() // it works without power
	for i, x := range []struct {
		t    api.Tally
		want []api.Entry
		err  api.Errno
	}{
		{tallyOf(nil, 2), l, 0},
		{tallyOf(l, 2), nil, 0},
		{tallyOf(l[:1], 2), l[1:], 0},
		{tallyOf([]api.Entry{e(0, 0, "z"), e(1, 0, "c")}, 2), l[:2], 0},
		{tallyOf([]api.Entry{e(0, 0, "a"), e(0, 1, "b"), e(0, 2, "c")}, 2), l, 0},
		{api.Tally{Have: []int{3, 1}, Sums: []uint64{sumOf(l[:2]), sumOf(l[2:])}}, l[:2], 0},
		{api.Tally{}, nil, api.ErrArg},
		{tallyOf(nil, 1), nil, api.ErrArg},
		{tallyOf(nil, 3), nil, api.ErrArg},
		{api.Tally{Have: []int{0, -1}, Sums: []uint64{sumOf(nil), sumOf(nil)}}, nil, api.ErrArg},
	} {
		if got, err := b.Wanted(x.t); !slices.Equal(got, x.want) || err != x.err {
			t.Error(i, got, err)
		}
	}
}

// P9.9: two books that have each taken what the other one has for its tally have the same entries.
func TestExchange(t *testing.T) {
	x := noise(11)
	differ := 0
	for range 300 {
		offices := x.from(1, 8)
		a, l := aBook(t, &x, offices)
		b := filled(t, offices, one(&x, like(&x, l, offices), listFor(&x, offices), nil))
		if !slices.Equal(a.All(), b.All()) {
			differ++
		}
		want := lesser(a.All(), b.All())
		ofA, ofB := a.Tally(), b.Tally()
		toA, err := b.Wanted(ofA)
		isOK(t, err)
		if x.below(2) == 0 { // one behind the other, or both at once
			if _, err := a.Take(shuffled(&x, toA)); err != api.OK {
				t.Fatal(err)
			}
		}
		toB, err := a.Wanted(ofB)
		isOK(t, err)
		if _, err := a.Take(toA); err != api.OK {
			t.Fatal(err)
		}
		if _, err := b.Take(shuffled(&x, toB)); err != api.OK {
			t.Fatal(err)
		}
		if !slices.Equal(a.All(), want) || !slices.Equal(b.All(), want) {
			t.Fatal(a.All(), b.All(), want)
		}
	}
	if differ < 250 {
		t.Error(differ)
	}
}

// lesser returns the entries that are in one of two lists, or, of those at one place, the one with the lesser Body.
func lesser(a, b []api.Entry) []api.Entry {
	var l []api.Entry
	for office := range 8 {
		for no := range 64 {
			i, k := having(a, e(office, no, "")), having(b, e(office, no, ""))
			switch {
			case i >= 0 && (k < 0 || a[i].Body < b[k].Body):
				l = append(l, a[i])
			case k >= 0:
				l = append(l, b[k])
			}
		}
	}
	return l
}

// P9.11: what a book has after Take does not depend on the order of the entries, nor on how often they are there; taken again they change nothing.
func TestAnyOrder(t *testing.T) {
	x := noise(12)
	changed := 0
	for range 300 {
		offices := x.from(1, 4)
		l := listFor(&x, offices)
		var some []api.Entry
		for _, z := range slices.Concat(like(&x, l, offices), like(&x, l, offices), invalid()) {
			if x.below(8) > 0 {
				some = append(some, z)
			}
		}
		a, b := filled(t, offices, l), filled(t, offices, l)
		n, err := a.Take(some)
		isOK(t, err)
		var twice []api.Entry
		for _, z := range some {
			for range one(&x, 1, 1, 2, 3) {
				twice = append(twice, z)
			}
		}
		m, err := b.Take(shuffled(&x, twice))
		if m != n || err != api.OK || !slices.Equal(a.All(), b.All()) || a.Room() != b.Room() {
			t.Fatal(n, m, err)
		}
		changed += n
		was, room := a.All(), a.Room()
		for range 2 {
			if n, err := a.Take(shuffled(&x, twice)); n != 0 || err != api.OK || !slices.Equal(a.All(), was) || a.Room() != room {
				t.Fatal(n, err)
			}
		}
	}
	if changed < 200 {
		t.Error(changed)
	}
}

// P9.12: of each office and number a book has at most one entry; it is never replaced by one with a greater Body.
func TestOneEntry(t *testing.T) {
	x := noise(13)
	for range 200 {
		y := newDesk(t, 400, x.from(1, 3))
		for range 30 {
			was := y.book.All()
			y.do(aDeed(&x, y.draft, one(&x, 3, 100)))
			l := y.book.All()
			for i := 1; i < len(l); i++ {
				if place(l[i-1]) >= place(l[i]) {
					t.Fatal(l)
				}
			}
			for _, z := range was {
				if i := having(l, z); i < 0 || l[i].Body > z.Body {
					t.Fatal(z, l)
				}
			}
		}
	}
}
