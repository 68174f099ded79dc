package journal_test

import (
	"math"
	"slices"
	"strings"
	"testing"

	"bonehouse/api"
	"bonehouse/journal"
)

// invalid returns entries that are not valid.
func invalid() []api.Entry {
	return []api.Entry{
		e(-1, 0, ""), e(8, 0, ""), e(math.MinInt, 0, ""), e(math.MaxInt, 0, ""), e(256, 0, ""),
		e(0, -1, ""), e(0, 64, ""), e(0, math.MinInt, ""), e(0, math.MaxInt, ""), e(7, 256, ""),
		e(0, 0, strings.Repeat("a", 2401)), e(7, 63, strings.Repeat("\x00", 100000)),
	}
}

// valid returns entries that are valid.
func valid() []api.Entry {
	return []api.Entry{
		e(0, 0, ""), e(7, 63, ""), e(7, 0, "a"), e(0, 63, "\x00"), e(3, 30, "\xff\xfe\n"),
		e(0, 0, strings.Repeat("a", 255)), e(1, 2, strings.Repeat("a", 256)), e(2, 1, strings.Repeat("\x00", 257)),
		e(7, 63, strings.Repeat("\x80", 2400)), e(0, 0, strings.Repeat("z", 2399)),
	}
}

// P9.1: which entries are valid.
func TestCheckEntry(t *testing.T) {
	for _, x := range invalid() {
		if err := journal.CheckEntry(x); err != api.ErrEntry {
			t.Error(x.Office, x.No, len(x.Body), err)
		}
	}
	for _, x := range valid() {
		if err := journal.CheckEntry(x); err != api.OK {
			t.Error(x.Office, x.No, len(x.Body), err)
		}
	}
}

// P9.1: the sum is that of all bytes of all entries, in order.
func TestSum(t *testing.T) {
	for _, x := range []struct {
		l    []api.Entry
		want uint64
	}{
		{nil, 14695981039346656037},
		{[]api.Entry{}, 14695981039346656037},
		{[]api.Entry{e(0, 0, "")}, 0x4d25767f9dce13f5}, // of four bytes 0
		{[]api.Entry{e(1, 2, "a"), e(3, 4, "")}, stepwise(1, 2, 1, 0, 97, 3, 4, 0, 0)},
		{[]api.Entry{e(7, 63, "\xff\x00")}, stepwise(7, 63, 2, 0, 255, 0)},
	} {
		if n, err := journal.Sum(x.l); n != x.want || err != api.OK {
			t.Errorf("%v: %#x %#x %d", x.l, n, x.want, err)
		}
	}
	x := noise(1)
	for range 300 {
		l := shuffled(&x, valid())[:x.below(6)]
		for range x.below(4) {
			l = append(l, e(x.below(8), x.below(64), aBody(&x, 2400)))
		}
		was := slices.Clone(l)
		if n, err := journal.Sum(l); n != sumOf(l) || err != api.OK || !slices.Equal(l, was) {
			t.Fatal(l, n, err)
		}
		l = slices.Insert(l, x.below(len(l)+1), one(&x, invalid()...))
		if n, err := journal.Sum(l); n != 0 || err != api.ErrEntry {
			t.Fatal(l, n, err)
		}
	}
}

// stepwise returns the sum of bytes by the chapter's words.
func stepwise(l ...byte) uint64 {
	n := uint64(14695981039346656037)
	for _, b := range l {
		n ^= uint64(b)
		n *= 1099511628211
	}
	return n
}

// P9.1: the sum tells where one entry ends and the next one begins, and the order.
func TestSumsDiffer(t *testing.T) {
	lists := [][]api.Entry{
		nil, {e(0, 0, "")}, {e(0, 0, ""), e(0, 0, "")}, {e(0, 0, "\x00\x00\x00\x00")}, {e(0, 1, "")}, {e(1, 0, "")},
		{e(0, 0, "a"), e(0, 1, "b")}, {e(0, 1, "b"), e(0, 0, "a")}, {e(0, 0, "b"), e(0, 1, "a")}, {e(0, 0, "a\x00\x01\x01\x00b")},
		{e(0, 0, strings.Repeat("a", 256))}, {e(0, 0, strings.Repeat("a", 257))}, {e(0, 0, "a")},
	}
	seen := map[uint64]int{}
	for i, l := range lists {
		n, err := journal.Sum(l)
		if k, is := seen[n]; is || err != api.OK {
			t.Error(i, k, n, err)
		}
		seen[n] = i
	}
}
