package rules

import (
	"maps"
	"slices"

	"bonehouse/api"
	"bonehouse/finds"
)

// isFromTo reports whether n is from least to most.
func isFromTo(n, least, most int) bool { return least <= n && n <= most }

// isDay reports whether n is a day.
func isDay(n int) bool { return isFromTo(n, 0, api.MaxDay) }

// CheckRule returns ErrRule unless x is valid.
func CheckRule(x api.Rule) api.Errno {
	if isFromTo(x.No, 0, api.MaxNo) && isFromTo(x.Name, 0, api.MaxNo) && isDay(x.Known) && isDay(x.At) && (isGone(x) || isThere(x)) {
		return api.OK
	}
	return api.ErrRule
}

// isGone reports whether x tells that there is no rule any more, and nothing else.
func isGone(x api.Rule) bool {
	return x == api.Rule{No: x.No, Name: x.Name, Known: x.Known, At: x.At, Gone: true}
}

// isThere reports whether x tells what a rule is.
func isThere(x api.Rule) bool {
	if x.Gone || x.Effect != api.ApartF && x.Effect != api.TogetherF || !isFromTo(x.Strength, 1, api.MaxStrength) || !isFromTo(x.Reviewer, 0, api.MaxNo) || len(x.Text) > api.MaxRule {
		return false
	}
	_, err := Parse(x.Text)
	return err == api.OK
}

// CheckCode returns the error of the first rule of c that does not continue those before it.
func CheckCode(c api.Code) api.Errno {
	if len(c.Rules) > api.MaxRules {
		return api.ErrLimit
	}
	for i, x := range c.Rules {
		if err := CheckRule(x); err != api.OK {
			return err
		}
		if !follows(c.Rules[:i], x) {
			return api.ErrOrder
		}
	}
	return api.OK
}

// follows reports whether a valid rule continues those before it.
func follows(before []api.Rule, x api.Rule) bool {
	count := len(before)
	return x.No == count && (count == 0 || x.Known >= before[count-1].Known)
}

// Add returns c with x as its last rule.
func Add(c api.Code, x api.Rule) (api.Code, api.Errno) {
	if err := CheckCode(c); err != api.OK {
		return api.Code{}, err
	}
	if err := CheckRule(x); err != api.OK {
		return api.Code{}, err
	}
	if len(c.Rules) == api.MaxRules {
		return api.Code{}, api.ErrLimit
	}
	if !follows(c.Rules, x) {
		return api.Code{}, api.ErrOrder
	}
	return api.Code{Rules: append(slices.Clone(c.Rules), x)}, api.OK
}

// checkDays returns ErrArg unless all are days.
func checkDays(l ...int) api.Errno {
	for _, day := range l {
		if !isDay(day) {
			return api.ErrArg
		}
	}
	return api.OK
}

// InForce returns the numbers of the rules that are in force on a day, as known on a day, in increasing order.
func InForce(c api.Code, day, known int) ([]int, api.Errno) {
	if err := CheckCode(c); err != api.OK {
		return nil, err
	}
	if err := checkDays(day, known); err != api.OK {
		return nil, err
	}
	return inForce(c, day, known), api.OK
}

// inForce is InForce for what is valid.
func inForce(c api.Code, day, known int) []int {
	return slices.Sorted(maps.Values(byName(c, day, known)))
}

// byName returns the numbers of the rules that are in force, by their names.
func byName(c api.Code, day, known int) map[int]int {
	last := map[int]int{}
	for no, x := range c.Rules {
		if x.Known > known || x.At > day {
			continue
		}
		if before, is := last[x.Name]; !is || x.At >= c.Rules[before].At {
			last[x.Name] = no
		}
	}
	maps.DeleteFunc(last, func(_, no int) bool { return c.Rules[no].Gone })
	return last
}

// Changed returns the names for which other rules are in force on a day, as known on the days before and after, in increasing order.
func Changed(c api.Code, day, before, after int) ([]int, api.Errno) {
	if err := CheckCode(c); err != api.OK {
		return nil, err
	}
	if err := checkDays(day, before, after); err != api.OK {
		return nil, err
	}
	first, second := byName(c, day, before), byName(c, day, after)
	var changed []int
	for _, x := range c.Rules {
		no, is := first[x.Name]
		later, still := second[x.Name]
		if no != later || is != still {
			changed = append(changed, x.Name)
		}
	}
	slices.Sort(changed)
	return slices.Compact(changed), api.OK
}

// law is a rule with its condition.
type law struct {
	api.Rule
	condition truthOf
}

// lawsOf returns the rules that are in force, in increasing order.
func lawsOf(c api.Code, day, known int) []law {
	var laws []law
	for _, no := range inForce(c, day, known) {
		x := c.Rules[no]
		e, _ := Parse(x.Text) // of a valid rule it is the text of a condition
		laws = append(laws, law{Rule: x, condition: truthIn(e)})
	}
	return laws
}

// holding returns those of the rules that hold of two finds.
func holding(laws []law, a, b api.Find) []law {
	there, back := pair{a, b}, pair{b, a}
	var held []law
	for _, w := range laws {
		if w.condition(&there).is || w.condition(&back).is {
			held = append(held, w)
		}
	}
	return held
}

// Says returns the numbers of the rules in force that hold of two finds, in increasing order.
func Says(c api.Code, a, b api.Find, day, known int) ([]int, api.Errno) {
	if err := CheckCode(c); err != api.OK {
		return nil, err
	}
	if err := checkBoth(a, b); err != api.OK {
		return nil, err
	}
	if err := checkDays(day, known); err != api.OK {
		return nil, err
	}
	var said []int
	for _, w := range holding(lawsOf(c, day, known), a, b) {
		said = append(said, w.No)
	}
	return said, api.OK
}

// Ties returns what the rules in force say of each two finds of l; ErrLimit if these are too many finds, or ties.
func Ties(c api.Code, l []api.Find, day, known int) ([]api.Tie, api.Errno) {
	if err := checkTies(c, l, day, known); err != api.OK {
		return nil, err
	}
	laws := lawsOf(c, day, known)
	var ties []api.Tie
	for i := range l {
		for j := i + 1; j < len(l); j++ {
			for _, w := range holding(laws, l[i], l[j]) {
				ties = append(ties, api.Tie{A: i, B: j, Kind: tieKind(w.Effect), Strength: w.Strength, Source: w.Name})
			}
		}
	}
	if len(ties) > api.MaxTies {
		return nil, api.ErrLimit
	}
	return ties, api.OK
}

// checkTies returns the error of what Ties is given.
func checkTies(c api.Code, l []api.Find, day, known int) api.Errno {
	if err := CheckCode(c); err != api.OK {
		return err
	}
	if len(l) > api.MaxNodes {
		return api.ErrLimit
	}
	for _, f := range l {
		if err := finds.CheckFind(f); err != api.OK {
			return err
		}
	}
	return checkDays(day, known)
}

// tieKind returns the kind of the ties of rules with an effect.
func tieKind(effect int) int {
	if effect == api.ApartF {
		return api.ApartT
	}
	return api.TogetherT
}
