package vault

import (
	"strconv"
	"strings"

	"bonehouse/api"
)

// The readers here let all forms pass. Of a text that is none of theirs they read something that has another text: so it is told from others.

// decimal returns the text of a number.
func decimal(n int) string { return strconv.Itoa(n) }

// joined returns the texts of numbers, with mark between.
func joined(l []int, mark string) string {
	words := make([]string, len(l))
	for i, n := range l {
		words[i] = decimal(n)
	}
	return strings.Join(words, mark)
}

// numbersIn returns the numbers of which a text consists, with mark between.
func numbersIn(text, mark string) []int {
	var l []int
	for word := range strings.SplitSeq(text, mark) {
		n, _ := strconv.Atoi(word)
		l = append(l, n)
	}
	return l
}

// listText returns the text of a list: a blank ahead of each element.
func listText[E any](l []E, text func(E) string) string {
	var t strings.Builder
	for _, e := range l {
		t.WriteString(" " + text(e))
	}
	return t.String()
}

// readList returns the list with a text, and whether there is one.
func readList[E any](text string, read func(string) E, print func(E) string) ([]E, bool) {
	var l []E
	for _, word := range strings.Split(text, " ")[1:] {
		l = append(l, read(word))
	}
	return l, listText(l, print) == text
}

// proofText returns the text of a proof.
func proofText(l []api.Step) string { return listText(l, stepText) }

// readProof returns the proof with a text, and whether there is one.
func readProof(text string) ([]api.Step, bool) { return readList(text, readStep, stepText) }

// stepText returns the text of a step.
func stepText(s api.Step) string {
	switch {
	case s.Together != 0 || s.Apart != 0:
		return joined([]int{s.A, s.B, s.Together, s.Apart}, ",")
	case len(s.Clique) > 0:
		return "c" + joined(s.Clique, ",")
	}
	return "x"
}

// readStep reads a step.
func readStep(word string) api.Step {
	if rest, is := strings.CutPrefix(word, "c"); is {
		return api.Step{Clique: numbersIn(rest, ",")}
	}
	if l := numbersIn(word, ","); len(l) == 4 {
		return api.Step{A: l[0], B: l[1], Together: l[2], Apart: l[3]}
	}
	return api.Step{}
}

const leaf = -1 // the trial of a leaf of a tree

// treeText returns the text of a tree.
func treeText(l []api.Node) string { return listText(l, nodeText) }

// readTree returns the tree with a text, and whether there is one.
func readTree(text string) ([]api.Node, bool) { return readList(text, readNode, nodeText) }

// nodeText returns the text of a node.
func nodeText(n api.Node) string {
	switch {
	case n.Trial != leaf:
		return decimal(n.Trial) + ":" + joined(n.Next, ",")
	case n.Answer:
		return "y"
	}
	return "n"
}

// readNode reads a node.
func readNode(word string) api.Node {
	trial, next, is := strings.Cut(word, ":")
	if !is {
		return api.Node{Trial: leaf, Answer: word == "y"}
	}
	n, _ := strconv.Atoi(trial)
	return api.Node{Trial: n, Next: numbersIn(next, ",")}
}
