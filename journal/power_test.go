package journal_test

import (
	"slices"
	"testing"

	"bonehouse/api"
)

// story is a book of so many offices on a disk of so many sectors, and what was done with it.
type story struct {
	sectors, offices int
	deeds            []deed
}

// told returns a desk behind a story.
func (s story) told(t testing.TB) *desk {
	t.Helper()
	y := newDesk(t, s.sectors, s.offices)
	for _, d := range s.deeds {
		y.run(d)
		steps, _, _ := y.draft.steps(d)
		for _, s := range steps {
			for _, c := range s.calls {
				y.paper.do(c)
			}
			y.draft = s.then
		}
	}
	return y
}

// has reports whether a book has just some entries.
func (y *desk) has(b draft) bool { return slices.Equal(y.book.All(), b.entries()) }

// interrupted does a deed, at the n-th call of which the power goes off; fails unless Open then finds what the book had ahead of it, or behind one of its steps that could be the interrupted one. It reports whether the power went off.
func (y *desk) interrupted(d deed, n int, keep string) bool {
	y.t.Helper()
	y.arm(n)
	path, err := y.do(d)
	if err != api.ErrDown {
		return false
	}
	done := slices.IndexFunc(path, func(b draft) bool { return y.has(b) }) // the steps that were done
	y.restart(keep)
	if !y.has(path[done]) && !y.has(path[done+1]) {
		y.t.Fatal(d, n, []byte(keep), y.book.All(), path[done].entries(), path[done+1].entries())
	}
	return true
}

// keeps returns ways in which some writes survive: all, if they are few, with the last one whole or torn; otherwise some.
func keeps(x *noise, writes int) []string {
	var l []string
	torn := []byte{64, 63, 1, 55, byte(x.from(2, 62))}
	if writes <= 4 {
		for set := range 1 << writes {
			keep := make([]byte, writes)
			last := -1
			for i := range keep {
				if set>>i&1 == 1 {
					keep[i], last = 64, i
				}
			}
			if last < 0 {
				l = append(l, string(keep))
				continue
			}
			for _, b := range torn {
				keep[last] = b
				l = append(l, string(keep))
			}
		}
		return l
	}
	for range 24 {
		keep := make([]byte, x.from(0, writes))
		for i := range keep {
			keep[i] = one(x, 0, 64, torn[x.below(len(torn))])
		}
		l = append(l, string(keep))
	}
	return l
}

// allInterrupted has the power go off at each call of the deed behind a story, with several ways in which writes survive.
func (s story) allInterrupted(t *testing.T, x *noise, d deed) int {
	t.Helper()
	count := 0
	for n := 1; ; n++ {
		y := s.told(t)
		y.arm(n)
		if _, err := y.do(d); err != api.ErrDown {
			return count
		}
		for _, keep := range keeps(x, len(y.paper.loose)) {
			y := s.told(t)
			if !y.interrupted(d, n, keep) {
				t.Fatal("the power is on")
			}
			// It goes on from there, with the same deed, and the power can go off again.
			y.interrupted(d, x.below(12), "\x40\x00\x40")
			y.arm(0)
			y.do(deed{kind: "compact"})
			y.do(deed{"add", []api.Entry{e(0, len(byOffice(y.book.All(), 0)), "behind")}})
			count++
		}
	}
}

// P9.7: the power goes off at each call of each deed of a story that has all cases: a new entry, a lesser one, long ones, and a Compact.
func TestPowerInAStory(t *testing.T) {
	x := noise(6)
	s := story{sectors: 20, offices: 2}
	count := 0
	for _, d := range []deed{
		{kind: "compact"},
		{"add", []api.Entry{e(0, 0, "m")}},
		{"add", []api.Entry{e(0, 1, full("two"))}},
		{kind: "compact"},
		{"take", []api.Entry{e(0, 0, "l"), e(1, 0, "n"), e(0, 1, full("one"))}},
		{kind: "compact"},
		{"add", []api.Entry{e(1, 1, full("three")+full("four"))}},
		{"take", []api.Entry{e(1, 0, "")}},
		{kind: "compact"},
		{kind: "compact"},
	} {
		count += s.allInterrupted(t, &x, d)
		s.deeds = append(s.deeds, d)
	}
	if count < 1000 {
		t.Error(count)
	}
}

// P9.7: as TestPowerInAStory, of any stories.
func TestPower(t *testing.T) {
	x := noise(7)
	count := 0
	for range 120 {
		most := one(&x, 3, 70, 200)
		s := story{sectors: x.from(6, 40), offices: x.from(1, 3)}
		for range x.below(10) {
			s.deeds = append(s.deeds, aDeed(&x, s.told(t).draft, most))
		}
		count += s.allInterrupted(t, &x, aDeed(&x, s.told(t).draft, most))
	}
	if count < 5000 {
		t.Error(count)
	}
}

// P9.7 and P9.12: what was written with OK is in the book ever after, or a lesser Body is in its place, never a greater one, also if the power goes off time and again.
func TestNothingIsLost(t *testing.T) {
	x := noise(8)
	seen := map[string]int{}
	for range 250 {
		y := newDesk(t, x.from(20, 80), x.from(1, 4))
		most := one(&x, 3, 70, 200)
		written := map[[2]int]string{}
		for range 60 {
			if x.below(2) == 0 {
				y.arm(x.from(1, 14))
			}
			d := aDeed(&x, y.draft, most)
			ahead := y.book.All()
			_, err := y.do(d)
			switch {
			case err == api.ErrDown:
				seen["down in "+d.kind]++
				keep := make([]byte, x.below(10))
				for i := range keep {
					keep[i] = one[byte](&x, 0, 64, 64, 64, byte(x.from(1, 63)))
				}
				y.restart(string(keep))
			case x.below(12) == 0:
				y.restart("\x40")
			}
			for _, z := range ahead {
				if i := having(y.book.All(), z); i < 0 || y.book.All()[i].Body > z.Body {
					t.Fatal(z, y.book.All())
				}
			}
			if err == api.OK && d.kind == "add" {
				written[[2]int{d.l[0].Office, d.l[0].No}] = d.l[0].Body
			}
			places := map[[2]int]bool{}
			for _, z := range y.book.All() {
				at := [2]int{z.Office, z.No}
				if body, is := written[at]; is && z.Body > body || places[at] {
					t.Fatal(z, body)
				}
				places[at] = true
				written[at] = z.Body
			}
			for at := range written {
				if !places[at] {
					t.Fatal(at, y.book.All())
				}
			}
		}
	}
	for s, n := range map[string]int{"down in add": 200, "down in take": 500, "down in compact": 300} {
		if seen[s] < n {
			t.Error(s, seen[s])
		}
	}
}
