package vault

import (
	"strconv"
	"strings"

	"bonehouse/api"
)

// Numbers of rules, and of reviewed ties: so their ties have different sources.
const (
	maxRuleName = 2047
	minTieNo    = maxRuleName + 1
)

const maxTrials = 8 // of a plan that is asked for

// words is what a line says at the places of a pattern that are written in capitals.
type words struct {
	offices []int // P and Q
	numbers []int // all others, in order
	text    string
	form    any
}

// match reads a line by a pattern, and reports whether it has this form. What stands at the last place can have blanks.
func match(pattern, line string) (words, bool) {
	places := strings.Split(pattern, " ")
	found := strings.SplitN(line, " ", len(places))
	if len(found) < len(places) {
		return words{}, false
	}
	var x words
	for i, place := range places {
		if !x.take(place, found[i]) {
			return words{}, false
		}
	}
	return x, true
}

// take reads what stands at a place, and reports whether it can stand there.
func (x *words) take(place, word string) bool {
	switch place {
	case "P", "Q":
		return takeNumber(&x.offices, word, api.Span{Lo: 0, Hi: api.MaxOffices - 1})
	case "PATTERN":
		x.text = word
		return areDigits(word, '3')
	case "KEEP":
		x.text = word
		return areDigits(word, '9')
	case "KIND":
		return x.takeKind(word)
	case "TRIALS":
		return x.takeTrials(word)
	case "FORM":
		form, is := readForm(word)
		x.text, x.form = word, form
		return is
	}
	if s := spanOf(place); s.Hi > 0 {
		return takeNumber(&x.numbers, word, s)
	}
	return word == place
}

// spanOf returns which numbers can stand at a place; 0 alone if it is not one of numbers.
func spanOf(place string) api.Span {
	switch place {
	case "OFFICES":
		return api.Span{Lo: 1, Hi: api.MaxOffices}
	case "TERM", "CALLS":
		return api.Span{Lo: 1, Hi: api.MaxTerm}
	case "DAYS":
		return api.Span{Lo: 1, Hi: api.MaxDay}
	case "FIND", "REVIEWER":
		return api.Span{Lo: 0, Hi: api.MaxNo}
	case "MOST":
		return api.Span{Lo: 0, Hi: api.MaxNodes}
	case "COST":
		return api.Span{Lo: 0, Hi: api.MaxCost}
	case "NO":
		return api.Span{Lo: minTieNo, Hi: api.MaxNo}
	case "STRENGTH":
		return api.Span{Lo: 1, Hi: api.MaxStrength}
	}
	return api.Span{}
}

// takeNumber appends the number that a word is to l, and reports whether it is one of these.
func takeNumber(l *[]int, word string, s api.Span) bool {
	n, err := strconv.Atoi(word)
	*l = append(*l, n)
	return err == nil && decimal(n) == word && s.Lo <= n && n <= s.Hi
}

// areDigits reports whether a word is digits up to a greatest one.
func areDigits(word string, most byte) bool {
	for i := range len(word) {
		if word[i] < '0' || word[i] > most {
			return false
		}
	}
	return word != ""
}

// takeKind reads the kind of a tie.
func (x *words) takeKind(word string) bool {
	switch word {
	case "apart":
		x.numbers = append(x.numbers, api.ApartT)
	case "together":
		x.numbers = append(x.numbers, api.TogetherT)
	default:
		return false
	}
	return true
}

// takeTrials reads the trials of a plan: three numbers for each.
func (x *words) takeTrials(text string) bool {
	trials := strings.SplitN(text, " ", maxTrials+1)
	for _, trial := range trials {
		y, is := match("FIND FIND COST", strings.ReplaceAll(trial, "/", " "))
		if !is {
			return false
		}
		x.numbers = append(x.numbers, y.numbers...)
	}
	return len(trials) <= maxTrials
}
