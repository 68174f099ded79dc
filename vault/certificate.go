package vault

import (
	"slices"
	"strings"

	"bonehouse/api"
	"bonehouse/count"
	"bonehouse/parts"
	"bonehouse/plan"
)

// statement is a line of a transcript behind a command: what it begins with, and what comes then.
type statement struct {
	head, text string
	accepts    func(text string) bool // whether this can come instead of text; nil: text alone can
}

// isLine reports whether a line is what is stated.
func (s statement) isLine(line string) bool {
	text, is := strings.CutPrefix(line, s.head)
	if s.accepts == nil {
		return is && text == s.text
	}
	return is && s.accepts(text)
}

// partition returns the certificate that is a partition.
func partition(head string, l []int, accepts func(l []int) bool) statement {
	text, _ := parts.Print(l)
	return statement{head, text, func(text string) bool {
		l, err := parts.Parse(text)
		return err == api.OK && accepts(l)
	}}
}

// proof returns the certificate that is a proof.
func proof(l []api.Step, accepts func(l []api.Step) bool) statement {
	return statement{"! proof", proofText(l), func(text string) bool {
		l, is := readProof(text)
		return is && accepts(l)
	}}
}

// parted returns the certificate that so many people are enough.
func parted(g api.Graph, people int) statement {
	l, _ := count.Parted(g)
	return partition("! parted ", l, func(l []int) bool {
		n, _ := parts.People(l)
		return n == people && count.CheckParted(g, l) == api.OK
	})
}

// beyond returns the certificate that there are more people than so many.
func beyond(g api.Graph, people int) statement {
	l, _, _ := count.Proof(g, people)
	return proof(l, func(l []api.Step) bool { return count.CheckProof(g, people, l) == api.OK })
}

// pair is two nodes of a graph, of which it is asked whether they are of one person, if there are at most so many people.
type pair struct {
	graph      api.Graph
	most, a, b int
}

// forced returns the reply that they surely, or never, are.
func (p pair) forced(word string, same bool) (reply, api.Errno) {
	l, _, err := parts.Forced(p.graph, p.most, p.a, p.b, same)
	if err != api.OK {
		return reply{}, err
	}
	return reply{[]string{word}, []statement{proof(l, func(l []api.Step) bool {
		return parts.CheckForced(p.graph, p.most, p.a, p.b, same, l) == api.OK
	})}}, api.OK
}

// possible returns the reply that they can be, and need not be.
func (p pair) possible() reply {
	one, _, _ := parts.Together(p.graph, p.most, p.a, p.b)
	two, _, _ := parts.Separate(p.graph, p.most, p.a, p.b)
	return reply{[]string{"possibly"}, []statement{p.witness("! together ", one, true), p.witness("! separate ", two, false)}}
}

// witness returns the certificate that they can be of one person, or that they need not be.
func (p pair) witness(head string, l []int, same bool) statement {
	return partition(head, l, func(l []int) bool {
		is, _ := parts.Allowed(p.graph, p.most, l)
		return is && (l[p.a] == l[p.b]) == same
	})
}

// decided returns the certificate that a problem can be decided for so much.
func decided(p api.Problem, cost int) statement {
	l, _, _ := plan.Tree(p)
	return statement{"! tree", treeText(l), func(text string) bool {
		l, is := readTree(text)
		return is && plan.CheckTree(p, l, cost) == api.OK
	}}
}

// undecided returns the certificate that a problem cannot be decided.
func undecided(p api.Problem) statement {
	l, _, _ := plan.Twins(p)
	return statement{"! twins ", joined(l[:], " "), func(text string) bool {
		l := numbersIn(text, " ")
		return joined(l, " ") == text && areTwins(p, l)
	}}
}

// areTwins reports whether l is two worlds in which the claim differs, and which no trial tells apart.
func areTwins(p api.Problem, l []int) bool {
	if len(l) != 2 || l[0] < 0 || l[0] >= l[1] || l[1] >= len(p.Claim) || p.Claim[l[0]] == p.Claim[l[1]] {
		return false
	}
	return !slices.ContainsFunc(p.Trials, func(t api.Trial) bool { return t.Outcomes[l[0]] != t.Outcomes[l[1]] })
}
