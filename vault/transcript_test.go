package vault_test

import (
	"fmt"
	"regexp"
	"slices"
	"strings"
	"testing"

	"bonehouse/api"
	"bonehouse/count"
	"bonehouse/parts"
	"bonehouse/plan"
	"bonehouse/vault"
)

// The forms of certificates, behind their words.
var (
	partitionForm = regexp.MustCompile(`^ \d+( \d+)*$`)
	stepForm      = regexp.MustCompile(`^(x|c(0|[1-9]\d*)(,(0|[1-9]\d*))*|(0|[1-9]\d*)(,(0|[1-9]\d*)){3})$`)
	nodeForm      = regexp.MustCompile(`^(y|n|(0|[1-9]\d*):(0|[1-9]\d*)(,(0|[1-9]\d*)){7})$`)
	twinsForm     = regexp.MustCompile(`^ (0|[1-9]\d*) (0|[1-9]\d*)$`)
)

// numbersOf returns the numbers of words.
func numbersOf(words []string) []int {
	var l []int
	for _, word := range words {
		l = append(l, at(word))
	}
	return l
}

// partsOf returns the partition that a certificate is, if it has the form of one in normal form.
func partsOf(text string) ([]int, bool) {
	if !partitionForm.MatchString(text) || len(text) > 200 {
		return nil, false
	}
	l := numbersOf(strings.Fields(text))
	return l, fmt.Sprint(l) == "["+text[1:]+"]" && parts.Check(l) == api.OK
}

// stepsOf returns the proof that a certificate is.
func stepsOf(text string) ([]api.Step, bool) {
	var l []api.Step
	words := strings.Split(text, " ")
	for _, word := range words[1:] {
		if !stepForm.MatchString(word) || len(word) > 200 {
			return nil, false
		}
		switch n := strings.Split(strings.TrimPrefix(word, "c"), ","); {
		case word == "x":
			l = append(l, api.Step{})
		case word[0] == 'c':
			l = append(l, api.Step{Clique: numbersOf(n)})
		default:
			s := api.Step{A: at(n[0]), B: at(n[1]), Together: at(n[2]), Apart: at(n[3])}
			if s.Together == 0 && s.Apart == 0 {
				return nil, false
			}
			l = append(l, s)
		}
	}
	return l, words[0] == ""
}

// treeOf returns the tree that a certificate is.
func treeOf(text string) ([]api.Node, bool) {
	var l []api.Node
	words := strings.Split(text, " ")
	for _, word := range words[1:] {
		if !nodeForm.MatchString(word) || len(word) > 200 {
			return nil, false
		}
		if trial, next, is := strings.Cut(word, ":"); is {
			l = append(l, api.Node{Trial: at(trial), Next: numbersOf(strings.Split(next, ","))})
		} else {
			l = append(l, api.Node{Trial: -1, Answer: word == "y"})
		}
	}
	return l, words[0] == ""
}

// certificate is what has to stand in a line: a word, and a text that is accepted.
type certificate struct {
	word    string
	accepts func(text string) bool
}

// certificates returns what has to stand behind what a command printed.
func (p *paper) certificates(w []string, out string) []certificate {
	if w[0] != "least" && w[0] != "relate" && w[0] != "plan" {
		return nil
	}
	g, _ := p.whole(at(w[1]))
	g, _ = strongest(g)
	if w[0] == "least" {
		least := at(strings.Fields(out)[0])
		return []certificate{
			{"parted", func(text string) bool {
				l, is := partsOf(text)
				return is && peopleOf(l) == least && slices.ContainsFunc(allParted(g, 0), func(m []int) bool { return slices.Equal(l, m) })
			}},
			{"proof", func(text string) bool {
				l, is := stepsOf(text)
				return is && count.CheckProof(g, least-1, l) == api.OK
			}},
		}
	}
	nodes := p.nodes(at(w[1]))
	a, b, most := nodes[at(w[2])], nodes[at(w[3])], at(w[4])
	all := allParted(g, most)
	if w[0] == "relate" {
		return relateCertificates(g, most, a, b, out, all)
	}
	var trials [][2]int
	var costs []int
	for _, word := range w[5:] {
		l := numbersOf(strings.Split(word, "/"))
		trials, costs = append(trials, [2]int{nodes[l[0]], nodes[l[1]]}), append(costs, l[2])
	}
	return planCertificates(g, most, a, b, out, all, trials, costs)
}

// relateCertificates returns what has to stand behind a relation.
func relateCertificates(g api.Graph, most, a, b int, out string, all [][]int) []certificate {
	if out != "possibly" {
		return []certificate{{"proof", func(text string) bool {
			l, is := stepsOf(text)
			return is && parts.CheckForced(g, most, a, b, out == "surely", l) == api.OK
		}}}
	}
	witness := func(one bool) func(text string) bool {
		return func(text string) bool {
			l, is := partsOf(text)
			return is && slices.ContainsFunc(all, func(m []int) bool { return slices.Equal(l, m) && (m[a] == m[b]) == one })
		}
	}
	return []certificate{{"together", witness(true)}, {"separate", witness(false)}}
}

// planCertificates returns what has to stand behind the cost of a plan.
func planCertificates(g api.Graph, most, a, b int, out string, all [][]int, trials [][2]int, costs []int) []certificate {
	if out == "none" {
		return []certificate{{"twins", func(text string) bool {
			if !twinsForm.MatchString(text) || len(text) > 20 {
				return false
			}
			l := numbersOf(strings.Fields(text))
			if l[0] >= l[1] || l[1] >= len(all) {
				return false
			}
			one, other := all[l[0]], all[l[1]]
			return (one[a] == one[b]) != (other[a] == other[b]) && !slices.ContainsFunc(trials, func(t [2]int) bool {
				return (one[t[0]] == one[t[1]]) != (other[t[0]] == other[t[1]])
			})
		}}}
	}
	return []certificate{{"tree", func(text string) bool {
		l, is := treeOf(text)
		p, err := plan.Pairs(g, most, a, b, trials, costs)
		return is && err == api.OK && plan.CheckTree(p, l, at(out)) == api.OK
	}}}
}

// wrongLine returns the first line with which no transcript begins, or how many there are; true if it is a transcript.
func wrongLine(text string) (int, bool) {
	whole := strings.HasSuffix(text, "\n") || text == ""
	lines := strings.Split(text, "\n")
	if whole {
		lines = lines[:len(lines)-1]
	}
	p := &paper{}
	n := 0
	expect := func(is func(line string) bool) bool {
		if n == len(lines) || !is(lines[n]) {
			return false
		}
		n++
		return true
	}
	for n < len(lines) {
		line, is := strings.CutPrefix(lines[n], "> ")
		if !is || !isCommand(line) || !p.isPossible(strings.Split(line, " ")) {
			return n, false
		}
		n++
		out, err := p.do(line)
		if err != api.OK {
			if !expect(func(s string) bool { return s == fmt.Sprint("? ", int(err)) }) {
				return n, false
			}
			continue
		}
		for _, printed := range strings.Split(out, "\n") {
			if out != "" && !expect(func(s string) bool { return s == "< "+printed }) {
				return n, false
			}
		}
		for _, c := range p.certificates(strings.Split(line, " "), out) {
			if !expect(func(s string) bool {
				rest, is := strings.CutPrefix(s, "! "+c.word)
				return is && c.accepts(rest)
			}) {
				return n, false
			}
		}
	}
	return n, whole
}

// accepts fails unless Accept says what the chapter says of a text, and reports whether it is accepted.
func accepts(t *testing.T, text string) bool {
	t.Helper()
	n, err := vault.Accept(text)
	want, is := wrongLine(text)
	if is && (n != 0 || err != api.OK) || !is && (n != want || err != api.ErrTranscript) {
		t.Fatalf("%d %d, not %d %v:\n%s", n, err, want, is, text)
	}
	return is
}

// short returns a transcript up to a line behind which it is not too long any more.
func short(text string) string {
	lines := strings.SplitAfter(text, "\n")
	size := 0
	for n, line := range lines {
		size += len(line)
		if size > api.MaxText || n == 2000 {
			return strings.Join(lines[:n], "")
		}
	}
	return text
}

// commandsOf returns the commands of a transcript.
func commandsOf(text string) []string {
	var l []string
	for _, line := range strings.Split(text, "\n") {
		if command, is := strings.CutPrefix(line, "> "); is {
			l = append(l, command)
		}
	}
	return l
}

// transcriptOf returns the transcript of lines.
func transcriptOf(l ...string) string {
	y := vault.New()
	for _, line := range l {
		y.Do(line)
	}
	return y.Transcript()
}

// P10.4, P10.5 and P10.6: the transcripts of campaigns are transcripts by the chapter's words, have the commands that were possible, and are accepted.
func TestTranscripts(t *testing.T) {
	t.Parallel()
	seen := map[string]int{}
	campaigns(201, 120, 120, func(l []string) {
		y := vault.New()
		var possible []string
		for _, line := range l {
			before := y.Transcript()
			_, err := y.Do(line)
			after := y.Transcript()
			isDone := err != api.ErrCommand && err != api.ErrNotNow
			if !strings.HasPrefix(after, before) || (after != before) != isDone {
				t.Fatal(line, err, before, after)
			}
			if isDone {
				possible = append(possible, line)
			}
		}
		text := y.Transcript()
		if !slices.Equal(commandsOf(text), possible) {
			t.Fatal(text, possible)
		}
		if !accepts(t, text) || transcriptOf(possible...) != text {
			t.Fatal(text)
		}
		for _, line := range strings.Split(text, "\n") {
			seen[strings.SplitN(line+" ", " ", 3)[0]+" "+strings.SplitN(line+"  ", " ", 3)[1]]++
		}
	})
	for _, word := range []string{"! parted", "! proof", "! together", "! separate", "! tree", "! twins", "? 4", "? 91", "< surely", "< never", "< possibly", "< none", "< yes"} {
		if seen[word] < 10 {
			t.Error(word, seen[word])
		}
	}
}

// comma returns numbers with commas between.
func comma(l ...int) string { return strings.Trim(strings.ReplaceAll(fmt.Sprint(l), " ", ","), "[]") }

// shifted returns the words of a proof or a tree whose steps stand so much later.
func shifted(text string, by int) []string {
	var words []string
	if l, is := stepsOf(text); is {
		for _, s := range l {
			switch {
			case s.Together != 0 || s.Apart != 0:
				words = append(words, comma(s.A, s.B, s.Together+by, s.Apart+by))
			case len(s.Clique) > 0:
				words = append(words, "c"+comma(s.Clique...))
			default:
				words = append(words, "x")
			}
		}
		return words
	}
	l, _ := treeOf(text)
	for _, n := range l {
		for i := range n.Next {
			if n.Next[i] > 0 {
				n.Next[i] += by
			}
		}
		switch {
		case n.Trial >= 0:
			words = append(words, fmt.Sprint(n.Trial, ":")+comma(n.Next...))
		case n.Answer:
			words = append(words, "y")
		default:
			words = append(words, "n")
		}
	}
	return words
}

// another returns another certificate, which is perhaps as good.
func another(x *noise, word, text string) string {
	switch word {
	case "parted", "together", "separate":
		if !partitionForm.MatchString(text) { // it was changed already
			return text
		}
		l := numbersOf(strings.Fields(text))
		l[x.below(len(l))] = x.below(len(l))
		if x.below(4) > 0 {
			l, _ = parts.Normal(l)
		}
		return " " + strings.Trim(fmt.Sprint(l), "[]")
	case "proof":
		a, b := x.below(4), x.below(4)
		one, two := shifted(text, 1), shifted(text, 1+len(shifted(text, 0)))
		return " " + strings.Join(slices.Concat([]string{comma(a, b, 1, 1+len(one))}, one, two), " ")
	case "tree":
		one, two := shifted(text, 1), shifted(text, 1+len(shifted(text, 0)))
		root := fmt.Sprint(x.below(3), ":") + comma(1, 1+len(one), 0, 0, 0, 0, 0, 0)
		return " " + strings.Join(slices.Concat([]string{root}, one, two), " ")
	}
	first := x.below(4)
	return fmt.Sprintf(" %d %d", first, first+x.below(4))
}

// changedLines returns the lines of a transcript with a change.
func changedLines(x *noise, l []string) []string {
	l = slices.Clone(l)
	n := x.below(len(l))
	switch x.below(10) {
	case 0:
		return slices.Delete(l, n, n+1)
	case 1:
		return slices.Insert(l, n, one(x, l[n], l[x.below(len(l))], "", "> sendall", "> ", "! proof", "! proof x", "< 1", "? 4", "> day 1"))
	case 2:
		m := x.below(len(l))
		l[n], l[m] = l[m], l[n]
	case 3, 4: // a byte is another one, or there is none, or one more
		at := x.below(len(l[n]) + 1)
		l[n] = l[n][:at] + one(x, "0", "1", "2", "3", " ", ",", "x", "c", "-", "") + l[n][min(len(l[n]), at+x.below(2)):]
	default: // one of the certificates
		certificates := slices.DeleteFunc(seq(len(l)), func(i int) bool { return !strings.HasPrefix(l[i], "! ") })
		if len(certificates) > 0 {
			n = certificates[x.below(len(certificates))]
			word, _, _ := strings.Cut(l[n][2:], " ")
			l[n] = "! " + word + another(x, word, l[n][2+len(word):])
		}
	}
	return l
}

// seq returns the numbers below n.
func seq(n int) []int {
	var l []int
	for i := range n {
		l = append(l, i)
	}
	return l
}

// inquiry returns a campaign of one office that asks much about few finds.
func inquiry(x *noise, lines int) []string {
	l := []string{"begin 1 1 1 1"}
	for find := range x.from(2, 6) {
		l = append(l, fmt.Sprintf("write 0 enter find %d 12 1 %d 20-30 0 1 2 %d", find+1, x.below(3), x.below(2)))
	}
	for len(l) < lines {
		switch x.below(12) {
		case 0:
			l = append(l, fmt.Sprintf("write 0 rule %d 0 apart %d 1 %s", x.below(3), x.from(1, 5), texts()[0]))
		case 1, 2:
			a := x.from(1, 6)
			l = append(l, fmt.Sprintf("write 0 tie %d %d %d %s %d 9", x.from(2048, 2060), a, a%6+1, one(x, "apart", "apart", "together"), x.from(1, 5)))
		case 3:
			l = append(l, fmt.Sprintf("write 0 untie %d", x.from(2048, 2060)))
		case 4, 5:
			l = append(l, "least 0")
		case 6, 7:
			l = append(l, fmt.Sprintf("relate 0 %d %d %d", x.from(1, 4), x.from(1, 5), one(x, 0, 2, 3)))
		default:
			var trials []string
			for range x.from(1, 3) {
				trials = append(trials, fmt.Sprintf("%d/%d/%d", x.from(1, 4), x.from(1, 4), x.below(3)))
			}
			l = append(l, fmt.Sprintf("plan 0 %d %d %d %s", x.from(1, 4), x.from(1, 5), one(x, 0, 2, 3), strings.Join(trials, " ")))
		}
	}
	return l
}

// P10.5, P10.6 and P0.7: transcripts with changes are accepted exactly if they are transcripts of other histories, or have other certificates; if not, the first wrong line is told.
func TestChangedTranscripts(t *testing.T) {
	t.Parallel()
	x := noise(202)
	seen, others := map[bool]int{}, map[string]int{}
	hold := func(l []string) {
		text := transcriptOf(l...)
		lines := strings.Split(strings.TrimSuffix(text, "\n"), "\n")
		for range 15 {
			changed := changedLines(&x, lines)
			for x.below(3) == 0 && len(changed) > 0 {
				changed = changedLines(&x, changed)
			}
			is := accepts(t, strings.Join(changed, "\n")+one(&x, "\n", "\n", "\n", ""))
			seen[is]++
			for i, line := range changed {
				if is && i < len(lines) && line != lines[i] {
					others[strings.SplitN(line+" ", " ", 3)[1]]++
				}
			}
		}
		for range 3 { // only the first bytes
			accepts(t, text[:x.below(len(text)+1)])
		}
	}
	campaigns(203, 30, 60, hold)
	for range 150 {
		hold(inquiry(&x, 30))
	}
	if seen[true] < 200 || seen[false] < 600 {
		t.Error(seen)
	}
	for _, word := range []string{"parted", "proof", "together", "separate", "tree", "twins"} {
		if others[word] < 3 {
			t.Error(word, others[word])
		}
	}
}
