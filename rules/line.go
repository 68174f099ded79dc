package rules

import (
	"strconv"
	"strings"

	"bonehouse/api"
)

const (
	goneWords = 5 // of the line of a rule that is gone
	ruleWords = 8 // of the line of another one, ahead of its text
)

// PrintRule returns the line of x; ErrRule unless it is valid.
func PrintRule(x api.Rule) (string, api.Errno) {
	if err := CheckRule(x); err != api.OK {
		return "", err
	}
	if x.Gone {
		return "gone" + decimals(x.No, x.Name, x.Known, x.At), api.OK
	}
	return "rule" + decimals(x.No, x.Name, x.Known, x.At) + " " + effectWord(x.Effect) + decimals(x.Strength, x.Reviewer) + " " + x.Text, api.OK
}

// decimals returns numbers, each behind a blank.
func decimals(l ...int) string {
	var t strings.Builder
	for _, n := range l {
		t.WriteString(" " + strconv.Itoa(n))
	}
	return t.String()
}

// effectWord returns the word of an effect.
func effectWord(effect int) string {
	if effect == api.ApartF {
		return "apart"
	}
	return "together"
}

// ParseRule returns the valid rule with the line s; ErrParse if there is none.
func ParseRule(s string) (x api.Rule, err api.Errno) {
	defer func() {
		if recover() != nil {
			x, err = api.Rule{}, api.ErrParse
		}
	}()
	x = readRule(s)
	line, fault := PrintRule(x)
	if fault != api.OK || line != s {
		return api.Rule{}, api.ErrParse
	}
	return x, api.OK
}

// readRule reads a rule. Of a line that is none it may read another one, or one that is not valid: that ParseRule tells by what it prints.
func readRule(s string) api.Rule {
	words := strings.SplitN(s, " ", ruleWords+1)
	if len(words) < goneWords {
		panic(noText{})
	}
	x := api.Rule{No: number(words[1]), Name: number(words[2]), Known: number(words[3]), At: number(words[4])}
	if words[0] == "gone" {
		x.Gone = true
		return x
	}
	if len(words) <= ruleWords {
		panic(noText{})
	}
	x.Effect = effect(words[5])
	x.Strength, x.Reviewer = number(words[6]), number(words[7])
	x.Text = words[ruleWords]
	return x
}

// effect returns the effect with a word.
func effect(word string) int {
	for _, x := range []int{api.ApartF, api.TogetherF} {
		if effectWord(x) == word {
			return x
		}
	}
	panic(noText{})
}
