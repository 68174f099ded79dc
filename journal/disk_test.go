package journal_test

import (
	"math"
	"strings"
	"testing"

	"bonehouse/api"
	"bonehouse/journal"
)

// full returns a text of a sector.
func full(s string) string { return strings.Repeat(s, 64)[:64] }

// newDisk returns a disk.
func newDisk(t testing.TB, sectors int) *journal.Disk {
	t.Helper()
	d, err := journal.NewDisk(sectors)
	if d == nil || err != api.OK {
		t.Fatal(sectors, err)
	}
	return d
}

// has fails unless a disk's sector contains a text.
func has(t testing.TB, d *journal.Disk, at int, want string) {
	t.Helper()
	if s, err := d.Read(at); s != want || err != api.OK {
		t.Errorf("%d: %q %q %d", at, s, want, err)
	}
}

// isOK fails if there is an error.
func isOK(t testing.TB, err api.Errno) {
	t.Helper()
	if err != api.OK {
		t.Fatal(err)
	}
}

// P9.2: a new disk has its power on, and sectors of zeros, that are safe.
func TestNewDisk(t *testing.T) {
	for _, n := range []int{0, -1, 4097, math.MinInt, math.MaxInt} {
		if d, err := journal.NewDisk(n); d != nil || err != api.ErrArg {
			t.Error(n, err)
		}
	}
	for _, n := range []int{1, 2, 4096} {
		d := newDisk(t, n)
		if d.Sectors() != n || !d.Up() {
			t.Error(n, d.Sectors(), d.Up())
		}
		for range 2 {
			if pagesOf(t, d) != strings.Repeat("\x00", 64*n) {
				t.Error(n)
			}
			d.Restart("\x40\x40")
		}
	}
}

// P9.2: sectors are written in whole; what is no sector is ErrArg, but ErrDown without power.
func TestDiskErrors(t *testing.T) {
	d := newDisk(t, 3)
	for range 2 {
		want := api.ErrArg
		if !d.Up() {
			want = api.ErrDown
		}
		for _, at := range []int{-1, 3, math.MinInt, math.MaxInt} {
			if s, err := d.Read(at); s != "" || err != want {
				t.Error(at, s, err)
			}
			if err := d.Write(at, full("a")); err != want {
				t.Error(at, err)
			}
		}
		for _, n := range []int{0, 63, 65, 128} {
			if err := d.Write(2, strings.Repeat("a", n)); err != want {
				t.Error(n, err)
			}
		}
		if want == api.ErrArg {
			d.Arm(1)
			if err := d.Sync(); err != api.ErrDown || d.Up() {
				t.Error(err)
			}
		}
	}
	if s, err := d.Read(0); s != "" || err != api.ErrDown {
		t.Error(s, err)
	}
	if d.Write(0, full("a")) != api.ErrDown || d.Sync() != api.ErrDown || d.Sectors() != 3 {
		t.Error("without power")
	}
	d.Restart("\x40\x40\x40\x40")
	if pagesOf(t, d) != strings.Repeat("\x00", 3*64) || !d.Up() {
		t.Error("something was written")
	}
}

// P9.2: what is read is what was written last; a write is safe behind a sync.
func TestSync(t *testing.T) {
	d := newDisk(t, 2)
	isOK(t, d.Write(0, full("a")))
	has(t, d, 0, full("a"))
	isOK(t, d.Write(0, full("b")))
	has(t, d, 0, full("b"))
	isOK(t, d.Sync())
	isOK(t, d.Write(1, full("c")))
	d.Restart("")
	has(t, d, 0, full("b"))
	has(t, d, 1, full("\x00"))
	isOK(t, d.Write(1, full("d")))
	d.Restart("\x40") // what has survived is safe
	d.Restart("")
	has(t, d, 1, full("d"))
}

// P9.2: of the writes that are not safe each survives or does not; of the last one that does perhaps only its first bytes.
func TestRestart(t *testing.T) {
	for _, x := range []struct{ keep, zero, one string }{
		{"", full("o"), full("o")},
		{"\x00\x00\x00\x00\x00\x00", full("o"), full("o")},
		{"\x01", "a" + full("o")[1:], full("o")},
		{"\x3f", full("a")[:63] + "o", full("o")},
		{"\x40", full("a"), full("o")},
		{"\x41", full("a"), full("o")},
		{"\xff", full("a"), full("o")},
		{"\x00\x02", full("o"), "bb" + full("o")[2:]},
		{"\x01\x02", full("a"), "bb" + full("o")[2:]}, // the first one is not the last one that survives
		{"\x01\x00\x03", "ccc" + full("a")[3:], full("o")},
		{"\x00\x00\x03", "ccc" + full("o")[3:], full("o")},
		{"\x00\x00\x03\x01", full("c"), "d" + full("o")[1:]},
		{"\x01\x01\x00\x05", full("a"), "ddddd" + full("b")[5:]},
		{"\x01\x01\x01\x01\x01\x01", full("c"), "d" + full("b")[1:]}, // there are four writes only
		{"\x01\x00\x00\x00\x00\x07", "a" + full("o")[1:], full("o")},
	} {
		d := newDisk(t, 2)
		for at := range 2 {
			isOK(t, d.Write(at, full("o")))
		}
		isOK(t, d.Sync())
		for i, s := range []string{"a", "b", "c", "d"} {
			isOK(t, d.Write(i%2, full(s)))
		}
		d.Restart(x.keep)
		for range 2 {
			has(t, d, 0, x.zero)
			has(t, d, 1, x.one)
			d.Restart("\x40\x40\x40\x40\x40") // no write is left
		}
	}
}

// P9.2: the power goes off at the n-th call of Write or Sync that is done; one with ErrArg does not count.
func TestArm(t *testing.T) {
	for n := -2; n <= 7; n++ {
		d := newDisk(t, 2)
		d.Arm(n)
		for i := 1; i <= 6; i++ {
			if d.Write(0, "short") == api.OK || d.Write(2, full("a")) == api.OK {
				t.Fatal("Write")
			}
			var err api.Errno
			if i%2 == 1 {
				err = d.Write(0, full("abc"[i/2:i/2+1]))
			} else {
				err = d.Sync()
			}
			isOff := 1 <= n && n <= i
			if (err == api.ErrDown) != isOff || (err == api.OK) == isOff || d.Up() == isOff {
				t.Error(n, i, err)
			}
		}
		d.Restart("\x40")
		want := full("c")
		if 1 <= n && n <= 6 {
			want = full(string("aabbcc"[n-1])) // the n-th call is done if it is a write
		}
		has(t, d, 0, want)
	}
}

// P9.2: a sync at which the power goes off is not done.
func TestSyncIsNotDone(t *testing.T) {
	d := newDisk(t, 1)
	isOK(t, d.Write(0, full("a")))
	d.Arm(1)
	if err := d.Sync(); err != api.ErrDown {
		t.Error(err)
	}
	d.Restart("")
	has(t, d, 0, full("\x00"))
}

// P9.2: only the last Arm counts; behind a Restart none does.
func TestArmIsForgotten(t *testing.T) {
	for _, again := range []func(d *journal.Disk){
		func(d *journal.Disk) { d.Arm(0) },
		func(d *journal.Disk) { d.Arm(-1) },
		func(d *journal.Disk) { d.Arm(math.MinInt) },
		func(d *journal.Disk) { d.Arm(math.MaxInt) },
		func(d *journal.Disk) { d.Restart("") },
		func(d *journal.Disk) { d.Sync(); d.Sync(); d.Restart("") },
		func(d *journal.Disk) { d.Sync(); d.Sync(); d.Arm(1); d.Restart("") },
	} {
		d := newDisk(t, 1)
		d.Arm(2)
		again(d)
		for range 5 {
			isOK(t, d.Write(0, full("a")))
			isOK(t, d.Sync())
		}
	}
	d := newDisk(t, 1)
	d.Arm(1)
	d.Arm(3)
	isOK(t, d.Sync())
	isOK(t, d.Sync())
	if d.Sync() != api.ErrDown {
		t.Error("the last Arm")
	}
}

// P9.2: a disk is as the chapter says, whatever is called.
func TestDiskModel(t *testing.T) {
	x := noise(2)
	seen := map[string]int{}
	for range 1500 {
		sectors := x.from(1, 4)
		d, p := newDisk(t, sectors), newPaper(sectors)
		for range 60 {
			switch x.below(12) {
			case 0:
				n := one(&x, -1, 0, 1, 2, x.below(12))
				d.Arm(n)
				p.armed = max(n, 0)
			case 1:
				keep := make([]byte, x.below(8))
				for i := range keep {
					keep[i] = one[byte](&x, 0, 0, 1, 63, 64, 65, 255, byte(x.below(256)))
				}
				if len(p.loose) > len(keep) {
					seen["shorter"]++
				}
				d.Restart(string(keep))
				p.restart(string(keep))
			case 2, 3:
				want := p.do(syncs())
				if err := d.Sync(); err != want {
					t.Fatal(err, want)
				}
			default:
				c := call{x.from(-x.below(2), sectors-1+x.below(2)), full(string([]byte{byte(x.next()), byte(x.next()), 'z'}))}
				if x.below(20) == 0 {
					c.text = c.text[:63]
				}
				if c.at == -1 { // that is a sync on paper
					c.at = sectors
				}
				want := p.do(c)
				if err := d.Write(c.at, c.text); err != want {
					t.Fatal(c, err, want)
				}
				if want == api.ErrDown {
					seen["down"]++
				}
			}
			if d.Up() == p.isOff || d.Sectors() != sectors {
				t.Fatal(d.Up(), p.isOff)
			}
			if d.Up() && pagesOf(t, d) != p.pages() {
				t.Fatal("sectors")
			}
		}
	}
	for _, s := range []string{"shorter", "down"} {
		if seen[s] < 1000 {
			t.Error(s, seen[s])
		}
	}
}

// P9.2: a disk that nobody has made panics nowhere, and has nothing.
func TestNoDisk(t *testing.T) {
	for _, d := range []*journal.Disk{nil, {}} {
		for range 2 {
			if d.Sectors() != 0 || d.Write(0, full("a")) == api.OK {
				t.Error("Write")
			}
			if s, err := d.Read(0); s != "" || err == api.OK {
				t.Error(s, err)
			}
			d.Arm(1)
			if d.Sync() != api.ErrDown || d.Up() {
				t.Error("Sync")
			}
			d.Restart("\x40")
		}
	}
}
