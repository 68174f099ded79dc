package vault_test

import (
	"fmt"
	"reflect"
	"slices"
	"strings"
	"testing"

	"bonehouse/api"
	"bonehouse/vault"
)

// texts are conditions of rules.
func texts() []string {
	return []string{
		"a.element = b.element and a.side = b.side and meet(a.zones, b.zones)", "not within(a.age, b.age, 0)", "a.element = b.element and a.side = b.side and not meet(a.zones, b.zones)",
		"within(a.m3, b.m3, 20) and a.square = b.square", "a.layer < b.layer", "a.no = 1 and b.no = 2", "a.no = 3 or b.no = 4",
	}
}

// ways is how many offices a campaign has, and what happens in it.
type ways struct {
	offices int
	hasNet  bool // entries are sent
	hasDark bool // the power goes off
	asks    int  // of 10 lines so many are questions
}

// anEvent returns the form of an event, of few finds.
func anEvent(x *noise) string {
	find := x.from(1, 9)
	switch x.below(9) {
	case 0, 1, 2, 3:
		// Two elements, one of which has sides.
		element, side := one(x, 3, 12, 12), 0
		if element == 12 {
			side = one(x, 1, 1, 2, 3)
		}
		lo := x.from(2, 5) * 10
		text := fmt.Sprintf("enter find %d %d %d %s %d-%d %d %d %d %d", x.from(1, 6), element, side, one(x, "0", "1", "2", "0-1", "1-2", "0,2"), lo, lo+10*x.below(4), x.below(5), x.below(3), x.below(4), x.below(2))
		if x.below(2) == 0 {
			text += fmt.Sprintf(" 3=%d/%d", x.from(400, 420), x.below(5))
		}
		return text
	case 4:
		other := x.from(1, 8)
		if other == find {
			other = 9
		}
		return fmt.Sprintf("join %d %d %d", find, other, x.from(7, 9))
	case 5:
		return fmt.Sprintf("split %d", one(x, 7, 8, 9))
	case 6:
		return fmt.Sprintf("measure %d %d=%d/%d", find, one(x, 3, 4), x.from(400, 420), x.below(5))
	case 7:
		return one(x, fmt.Sprintf("date %d 20-%d", find, x.from(20, 60)), fmt.Sprintf("assign %d 12 %d 0-1 1 2", find, x.from(1, 3)))
	}
	return fmt.Sprintf("withdraw %d", x.from(1, 12)) // of a find that can be there, or not
}

// aForm returns a form.
func aForm(x *noise, y ways) string {
	about := 64*x.below(y.offices) + x.below(6) // a message
	find, family := x.from(1, 3), 100*x.from(1, 3)
	switch x.below(22) {
	case 0, 1, 2, 3, 20, 21:
		return anEvent(x)
	case 6:
		return fmt.Sprintf("rule %d %d %s %d 9 %s", x.below(3), x.below(4), one(x, "apart", "apart", "together"), x.from(1, 5), one(x, texts()...))
	case 7:
		return fmt.Sprintf("gone %d %d", x.below(3), x.below(8))
	case 8, 9:
		a := x.from(1, 9)
		return fmt.Sprintf("tie %d %d %d %s %d 9", x.from(2048, 2054), a, a%9+1, one(x, "apart", "together"), x.from(1, 5))
	case 10:
		return fmt.Sprintf("untie %d", x.from(2048, 2054))
	case 11:
		return fmt.Sprintf("claim %d %d", find, family)
	case 12:
		return fmt.Sprintf("object %d %d", about, family)
	case 13:
		return fmt.Sprintf("sample %d %d %d", about, family, x.from(1, 4))
	case 14:
		return fmt.Sprintf("drop %d %d", about, family)
	case 15:
		return fmt.Sprintf("lease %d %d", find, x.below(3))
	case 16:
		return fmt.Sprintf("give %d", about)
	case 17:
		return fmt.Sprintf("bury %d", about)
	}
	return "keep"
}

// aQuestion returns a question.
func aQuestion(x *noise, office, other int) string {
	find := func() int { return one(x, 1, 2, 3, 4, 5, 6, x.from(1, 9)) }
	switch x.below(16) {
	case 0, 1, 2:
		return fmt.Sprintf("relate %d %d %d %d", office, find(), find(), one(x, 0, 0, 2, 3))
	case 3, 4, 5, 6, 7:
		var trials []string
		for range x.from(1, 3) {
			trials = append(trials, fmt.Sprintf("%d/%d/%d", find(), find(), x.below(9)))
		}
		return fmt.Sprintf("plan %d %d %d %d %s", office, find(), find(), one(x, 0, 2, 2, 3), strings.Join(trials, " "))
	case 8:
		return fmt.Sprintf("agree %d %d", office, other)
	}
	return fmt.Sprintf("%s %d", one(x, "refused", "finds", "strength", "least", "repeat", "claims", "rulings", "buried"), office)
}

// aLine returns a line of a campaign.
func aLine(x *noise, y ways) string {
	p, q := x.below(y.offices), x.below(y.offices)
	if x.below(60) == 0 { // one that is no command, or perhaps not possible
		return one(x, "begin 1 1 1 1", "", "day 0", "refused 8", "finds 7", fmt.Sprintf("talk %d %d", p, p), "send 0 0 1", "write 0 keep ", "day 1048000", "day 1048000")
	}
	if x.below(10) < y.asks {
		return aQuestion(x, p, q)
	}
	switch n := x.below(20); {
	case n < 2:
		return fmt.Sprintf("day %d", x.from(1, 4))
	case n < 5 && y.hasNet:
		return one(x, fmt.Sprintf("send %d %d %s", p, q, one(x, "1", "10", "0111", "3120", "2", "31")), fmt.Sprintf("talk %d %d", p, q), "sendall")
	case n < 7 && y.hasDark:
		return one(x, fmt.Sprintf("crash %d %d", p, x.from(1, 6)), fmt.Sprintf("open %d %s", p, one(x, "0", "9", "1", "87", "8808", "90001")), fmt.Sprintf("open %d 5", p), fmt.Sprintf("compact %d", p))
	}
	return fmt.Sprintf("write %d %s", p, aForm(x, y))
}

// someWays returns ways of a campaign.
func someWays(x *noise) ways {
	return ways{offices: x.from(1, 4), hasNet: x.below(4) > 0, hasDark: x.below(2) == 0, asks: x.below(5)}
}

// campaigns calls each with the lines of campaigns of so many lines.
func campaigns(seed noise, number, lines int, each func(l []string)) {
	x := seed
	for range number {
		y := someWays(&x)
		l := []string{fmt.Sprintf("begin %d %d %d %d", y.offices, x.from(1, 4), x.from(1, 4), x.from(1, 9))}
		for find := range x.below(6) {
			l = append(l, fmt.Sprintf("write 0 enter find %d 12 1 %d 20-30 0 1 2 %d", find+1, x.below(3), x.below(2)))
		}
		for len(l) < lines {
			l = append(l, aLine(&x, y))
		}
		each(l)
	}
}

// P10.2 and P10.3: Do, Day, Offices, and what an office knows, held against the chapter's words in random campaigns.
func TestCampaigns(t *testing.T) {
	t.Parallel()
	errors, words := map[api.Errno]int{}, map[string]int{}
	campaigns(1, 300, 120, func(l []string) {
		y, p := vault.New(), &paper{}
		for _, line := range l {
			out, err := y.Do(line)
			want, fault := p.do(line)
			if out != want || err != fault || y.Day() != p.day || y.Offices() != len(p.books) {
				t.Fatalf("%s: %q %d, not %q %d\n%s", line, out, err, want, fault, strings.Join(l, "\n"))
			}
			errors[err]++
			words[strings.SplitN(out, " ", 2)[0]]++
		}
		holdKnown(t, y, p)
	})
	for _, err := range []api.Errno{api.OK, api.ErrLimit, api.ErrNone, api.ErrLate, api.ErrLease, api.ErrDown, api.ErrCommand, api.ErrNotNow, api.ErrArg} {
		if errors[err] < 10 {
			t.Error(err, errors[err])
		}
	}
	for _, word := range []string{"surely", "possibly", "never", "none", "yes", "no", "1", "2", "3"} {
		if words[word] < 20 {
			t.Error(word, words[word])
		}
	}
}

// holdKnown holds what the offices of y know against p.
func holdKnown(t *testing.T, y *vault.Model, p *paper) {
	t.Helper()
	for office := range p.books {
		if !p.isOpen[office] {
			holdClosed(t, y, office, api.ErrNotNow)
			continue
		}
		s := p.scrap(office)
		tally, err := y.Tally(office)
		same(t, "tally", tally, err, p.books[office].Tally())
		refused, err := y.Refused(office)
		same(t, "refused", refused, err, s.refused)
		register, err := y.Register(office)
		same(t, "register", register, err, s.register)
		code, err := y.Code(office)
		same(t, "code", code, err, s.code)
		reviewed, err := y.Reviewed(office)
		same(t, "reviewed", reviewed, err, s.ties)
		found, err := y.Finds(office)
		same(t, "finds", found, err, p.finds(office))
		court, err := y.Court(office)
		same(t, "court", court, err, p.court(office))
		want, fault := p.whole(office)
		if fault == api.OK {
			want, _ = strongest(want)
		}
		g, err := y.Graph(office)
		if !alike(g, want) || err != fault {
			t.Fatal(g, err, want, fault)
		}
	}
	holdClosed(t, y, -1, api.ErrArg)
	holdClosed(t, y, len(p.books), api.ErrArg)
}

// same fails unless something was told rightly.
func same[T any](t *testing.T, what string, x T, err api.Errno, want T) {
	t.Helper()
	if !alike(x, want) || err != api.OK {
		t.Fatal(what, x, err, want)
	}
}

// alike reports whether two values are equal, with nil and empty lists alike.
func alike(a, b any) bool { return fmt.Sprint(a) == fmt.Sprint(b) }

// holdClosed fails unless nothing is told of an office, but this error.
func holdClosed(t *testing.T, y *vault.Model, office int, want api.Errno) {
	t.Helper()
	for i, x := range answers(y, office) {
		if !reflect.ValueOf(x.value).IsZero() || x.err != want {
			t.Fatal(i, x.value, x.err, want)
		}
	}
}

// answer is what is told of an office.
type answer struct {
	value any
	err   api.Errno
}

// answers returns all that is told of an office.
func answers(y *vault.Model, office int) []answer {
	var l []answer
	tell := func(x any, err api.Errno) { l = append(l, answer{x, err}) }
	tally, err := y.Tally(office)
	tell(tally, err)
	refused, err := y.Refused(office)
	tell(refused, err)
	register, err := y.Register(office)
	tell(register, err)
	code, err := y.Code(office)
	tell(code, err)
	reviewed, err := y.Reviewed(office)
	tell(reviewed, err)
	found, err := y.Finds(office)
	tell(found, err)
	g, err := y.Graph(office)
	tell(g, err)
	court, err := y.Court(office)
	tell(court, err)
	return l
}

// P10.3: what is told is new memory.
func TestNewMemory(t *testing.T) {
	y := vault.New()
	do(t, y, "begin 2 5 10 20", "write 0 enter find 1 12 1 0-1 20-30 1 0 1 1 3=400/5", "write 0 enter find 2 12 1 1-2 25-35 0 0 1 1 3=401/5", "write 0 "+same12, "write 0 tie 2050 1 2 apart 80 9", "write 0 claim 1 2")
	before := fmt.Sprint(answers(y, 0))
	tally, _ := y.Tally(0)
	register, _ := y.Register(0)
	code, _ := y.Code(0)
	reviewed, _ := y.Reviewed(0)
	found, _ := y.Finds(0)
	g, _ := y.Graph(0)
	c, _ := y.Court(0)
	tally.Have[0], tally.Sums[0] = 7, 7
	register.Events[0].Data.Measures[0].Value = 7
	register.Events[1].Known = 7
	code.Rules[0].Name = 7
	reviewed[0].A = 7
	found[0].Measures[0].Value = 7
	found[1].No = 7
	g.Ties[0].A = 7
	c.Log[0].Day = 7
	if after := fmt.Sprint(answers(y, 0)); after != before {
		t.Error(before, after)
	}
	if slices.ContainsFunc(answers(y, 0), func(x answer) bool { return x.err != api.OK }) {
		t.Error(before)
	}
}

// same12 is a rule of the chapter's kind: finds that have a zone of one element and side in common are of different people.
const same12 = "rule 5 0 apart 60 9 a.element = b.element and a.side = b.side and meet(a.zones, b.zones)"
