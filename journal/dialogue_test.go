package journal_test

import (
	"math"
	"slices"
	"strings"
	"testing"

	"bonehouse/api"
	"bonehouse/journal"
)

// between returns the entries of an office from a number up to, and without, another one.
func between(l []api.Entry, office, from, to int) []api.Entry {
	var some []api.Entry
	for _, x := range byOffice(l, office) {
		if from <= x.No && x.No < to {
			some = append(some, x)
		}
	}
	return some
}

// askOf returns a question of a book that has some entries.
func askOf(l []api.Entry, office, from, to int, back bool) api.Ask {
	return api.Ask{Office: office, From: from, To: to, Sum: sumOf(between(l, office, from, to)), Back: back}
}

// answerOf returns what a book that has some entries answers.
func answerOf(l []api.Entry, asks []api.Ask) ([]api.Ask, []api.Entry) {
	var next []api.Ask
	var sent []api.Entry
	for _, q := range asks {
		if q.Sum == sumOf(between(l, q.Office, q.From, q.To)) {
			continue
		}
		if q.To-q.From == 1 {
			sent = append(sent, between(l, q.Office, q.From, q.To)...)
			if !q.Back {
				next = append(next, askOf(l, q.Office, q.From, q.To, true))
			}
			continue
		}
		m := (q.From + q.To) / 2
		next = append(next, askOf(l, q.Office, q.From, m, false), askOf(l, q.Office, m, q.To, false))
	}
	return next, sent
}

// wrongAsks returns places of questions that no book of so many offices can be asked.
func wrongAsks(offices int) [][3]int {
	return [][3]int{
		{-1, 0, 1}, {offices, 0, 1}, {math.MaxInt, 0, 64}, {math.MinInt, 0, 64},
		{0, -1, 1}, {0, math.MinInt, 64}, {0, 0, 65}, {0, 63, 65}, {0, 0, math.MaxInt}, {0, 64, 65},
		{0, 0, 0}, {0, 3, 3}, {0, 4, 3}, {0, 64, 64}, {0, 65, 64}, {0, math.MaxInt, math.MinInt}, {0, 1, -1}, {0, math.MaxInt, 1},
	}
}

// P9.6: Digest and Begin, with and without power.
func TestDigest(t *testing.T) {
	x := noise(14)
	for range 40 {
		offices := x.from(1, 8)
		l := listFor(&x, offices)
		d, b := made(t, api.MaxSectors, offices)
		if _, err := b.Take(l); err != api.OK {
			t.Fatal(err)
		}
		if x.below(2) == 0 {
			d.Arm(1)
			d.Sync()
		}
		for range 200 {
			office, from := x.below(offices), x.below(64)
			to := one(&x, from+1, 64, x.from(from+1, 64))
			if n, err := b.Digest(office, from, to); n != sumOf(between(l, office, from, to)) || err != api.OK {
				t.Fatal(office, from, to, n, err)
			}
		}
		var begin []api.Ask
		for office := range offices {
			begin = append(begin, askOf(l, office, 0, 64, false))
		}
		for range 2 {
			got := b.Begin()
			if !slices.Equal(got, begin) {
				t.Fatal(got, begin)
			}
			clear(got)
		}
		for _, y := range wrongAsks(offices) {
			if n, err := b.Digest(y[0], y[1], y[2]); n != 0 || err != api.ErrArg {
				t.Fatal(y, n, err)
			}
		}
	}
}

// P9.6: the chapter's examples.
func TestDialogueExamples(t *testing.T) {
	_, none := made(t, 12, 1)
	if l := none.Begin(); !slices.Equal(l, []api.Ask{{Office: 0, From: 0, To: 64, Sum: 14695981039346656037}}) {
		t.Error(l)
	}
	b := filled(t, 1, []api.Entry{e(0, 0, "A")})
	l, sent, err := b.Answer(none.Begin())
	want := []api.Ask{{To: 32, Sum: sumOf([]api.Entry{e(0, 0, "A")})}, {From: 32, To: 64, Sum: sumOf(nil)}}
	if !slices.Equal(l, want) || len(sent) != 0 || err != api.OK {
		t.Error(l, sent, err)
	}
}

// P9.6: errors of Answer.
func TestAnswerErrors(t *testing.T) {
	for _, offices := range []int{1, 3, 8} {
		b := filled(t, offices, []api.Entry{e(0, 0, "A")})
		for _, y := range wrongAsks(offices) {
			bad := api.Ask{Office: y[0], From: y[1], To: y[2], Sum: sumOf(nil)}
			for _, l := range [][]api.Ask{{bad}, {{To: 64}, bad}, {{From: 0, To: 1}, bad, {To: 64}}} {
				if next, sent, err := b.Answer(l); len(next) != 0 || len(sent) != 0 || err != api.ErrArg {
					t.Error(y, next, sent, err)
				}
			}
		}
		for n, want := range map[int]api.Errno{0: api.OK, 512: api.OK, 513: api.ErrLimit, 2000: api.ErrLimit} {
			l := make([]api.Ask, n)
			for i := range l {
				l[i] = api.Ask{To: 64, From: 62}
				if want != api.OK {
					l[i].Office = 9 // ErrLimit comes first
				}
			}
			next, sent, err := b.Answer(l)
			if err != want || len(sent) != 0 || want != api.OK && len(next) != 0 || want == api.OK && len(next) != 2*n {
				t.Error(n, len(next), err)
			}
		}
	}
}

// P9.6: Answer is as the chapter says.
func TestAnswer(t *testing.T) {
	x := noise(15)
	seen := map[string]int{}
	for range 300 {
		offices := x.from(1, 8)
		b, l := aBook(t, &x, offices)
		other := like(&x, l, offices)
		var asks []api.Ask
		for range x.below(20) {
			office, from := x.below(offices), x.below(64)
			to := one(&x, from+1, from+1, min(64, from+2), 64, x.from(from+1, 64))
			q := askOf(one(&x, other, l), office, from, to, x.below(2) == 0)
			if x.below(4) == 0 {
				q.Sum = one(&x, 0, sumOf(nil), x.next())
			}
			asks = append(asks, q)
			if x.below(6) == 0 {
				asks = append(asks, q) // it is answered twice
			}
		}
		was := slices.Clone(asks)
		wantNext, wantSent := answerOf(l, asks)
		next, sent, err := b.Answer(asks)
		if !slices.Equal(next, wantNext) || !slices.Equal(sent, wantSent) || err != api.OK || !slices.Equal(asks, was) {
			t.Fatal(asks, next, wantNext, sent, wantSent, err)
		}
		clear(sent)
		if !slices.Equal(b.All(), l) {
			t.Fatal("the book was changed")
		}
		for _, q := range asks {
			n, isSame := q.To-q.From, q.Sum == sumOf(between(l, q.Office, q.From, q.To))
			switch {
			case isSame:
				seen["same"]++
			case n == 1 && q.Back:
				seen["back"]++
			case n == 1:
				seen["one"]++
			case q.Back:
				seen["several, back"]++
			case n%2 == 1:
				seen["odd"]++
			default:
				seen["even"]++
			}
		}
	}
	for _, s := range []string{"same", "back", "one", "several, back", "odd", "even"} {
		if seen[s] < 50 {
			t.Error(s, seen[s])
		}
	}
}

// talk has a dialogue of two books, which the first one begins; it returns what was sent to each of them, and how many rounds there were.
func talk(t testing.TB, a, b *journal.Book) (toA, toB []api.Entry, rounds int) {
	t.Helper()
	asks := a.Begin()
	for len(asks) > 0 {
		rounds++
		if rounds > 8 {
			t.Fatal("it goes on")
		}
		who, to := b, &toA
		if rounds%2 == 0 {
			who, to = a, &toB
		}
		next, sent, err := who.Answer(asks)
		isOK(t, err)
		*to = append(*to, sent...)
		asks = next
	}
	return toA, toB, rounds
}

// differing returns the entries of a list at places where another one has another entry, or none.
func differing(l, other []api.Entry) []api.Entry {
	var some []api.Entry
	for _, x := range l {
		if !slices.Contains(other, x) {
			some = append(some, x)
		}
	}
	return some
}

// sorted returns entries by office, then by number.
func sorted(l []api.Entry) []api.Entry {
	l = slices.Clone(l)
	slices.SortFunc(l, func(a, b api.Entry) int { return place(a) - place(b) })
	return l
}

// agrees has a dialogue of two books, and fails unless it sends just what differs, and both have the same entries behind it.
func agrees(t testing.TB, a, b *journal.Book) int {
	t.Helper()
	ofA, ofB := a.All(), b.All()
	want := lesser(ofA, ofB)
	toA, toB, rounds := talk(t, a, b)
	if !slices.Equal(sorted(toA), differing(ofB, ofA)) || !slices.Equal(sorted(toB), differing(ofA, ofB)) {
		t.Fatal(toA, toB, ofA, ofB)
	}
	if _, err := b.Take(toB); err != api.OK {
		t.Fatal(err)
	}
	if _, err := a.Take(toA); err != api.OK {
		t.Fatal(err)
	}
	if !slices.Equal(a.All(), want) || !slices.Equal(b.All(), want) {
		t.Fatal(a.All(), b.All(), want)
	}
	if _, _, again := talk(t, a, b); again != 1 {
		t.Fatal(again)
	}
	return rounds
}

// P9.10: a dialogue ends after at most 8 rounds; it sends just what differs; behind it both books have the same.
func TestDialogues(t *testing.T) {
	x := noise(16)
	seen := map[int]int{}
	for range 300 {
		offices := x.from(1, 8)
		a, l := aBook(t, &x, offices)
		b := filled(t, offices, one(&x, l, like(&x, l, offices), like(&x, l, offices), listFor(&x, offices), nil))
		seen[agrees(t, a, b)]++
	}
	if seen[1] < 20 || seen[8] < 200 || len(seen) != 2 {
		t.Error(seen)
	}
}

// P9.10: books of one office with any two numbers of entries.
func TestDialoguesByLength(t *testing.T) {
	var l []api.Entry
	for no := range 64 {
		l = append(l, e(0, no, strings.Repeat("n", no%3)))
	}
	for n := range 65 {
		for _, m := range []int{0, 1, 2, 31, 32, 33, 63, 64, n, max(0, n-1)} {
			a, b := filled(t, 1, l[:n]), filled(t, 1, l[:m])
			if rounds := agrees(t, a, b); (rounds == 1) != (n == m) {
				t.Error(n, m, rounds)
			}
		}
	}
}

// P9.10: all entries of eight offices differ: so many questions are still answered.
func TestLongestDialogue(t *testing.T) {
	x := noise(17)
	var l, m []api.Entry
	for office := range 8 {
		for no := range 64 {
			l = append(l, e(office, no, one(&x, "a", "c")))
			m = append(m, e(office, no, "b"))
		}
	}
	if rounds := agrees(t, filled(t, 8, l), filled(t, 8, m)); rounds != 8 {
		t.Error(rounds)
	}
	if rounds := agrees(t, filled(t, 8, l), filled(t, 8, nil)); rounds != 8 {
		t.Error(rounds)
	}
	if rounds := agrees(t, filled(t, 8, nil), filled(t, 8, l)); rounds != 8 {
		t.Error(rounds)
	}
}
