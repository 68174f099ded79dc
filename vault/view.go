package vault

import (
	"cmp"
	"maps"
	"slices"
	"strconv"
	"strings"

	"bonehouse/api"
	"bonehouse/finds"
	"bonehouse/rules"
)

// note is an entry of a book, as it is read.
type note struct {
	office, no int
	day        int
	form       any
}

// notes returns what an office has in its book, by office, then by number.
func (y *Model) notes(p int) []note {
	var l []note
	for _, e := range y.offices[p].book.All() {
		day, text, _ := strings.Cut(e.Body, " ")
		n := note{office: e.Office, no: e.No}
		n.day, _ = strconv.Atoi(day)
		n.form, _ = readForm(text)
		l = append(l, n)
	}
	return l
}

// court returns what an office knows of claims and leases.
func (y *Model) court(p int) api.Court {
	c := api.Court{Offices: len(y.offices), Me: p, Day: y.day, Terms: y.terms}
	for _, n := range y.notes(p) {
		m, is := n.form.(api.Message)
		if !is {
			m.Kind = api.KeepM
		}
		m.From, m.No, m.Day = n.office, n.no, n.day
		c.Log = append(c.Log, m)
	}
	return c
}

// review is a reviewed tie.
type review struct {
	tie    api.Tie
	isBack bool // it was taken back
}

// view is what an office makes of its book.
type view struct {
	day      int
	register api.Register
	code     api.Code
	reviews  map[int]review // by the numbers of the ties
	refused  int            // so many entries
}

// view returns what an office makes of its book.
func (y *Model) view(p int) *view {
	v := &view{day: y.day, reviews: map[int]review{}}
	l := y.notes(p)
	slices.SortStableFunc(l, func(a, b note) int { return cmp.Compare(a.day, b.day) })
	var events []api.Event // which of them count depends on nothing else
	for _, n := range l {
		switch x := n.form.(type) {
		case api.Event:
			x.Known = n.day
			events = append(events, x)
		case api.Rule:
			x.Known = n.day
			v.add(x)
		case api.Tie:
			v.tie(x)
		case untie:
			v.takeBack(x.no)
		}
	}
	v.enter(events)
	return v
}

// enter has those events count that the register accepts, one after the other, as finds.Enter would. It accepts several exactly if they make a valid register with those before them: so many are tried at once, as each try goes through the whole register.
func (v *view) enter(l []api.Event) {
	size := 1
	for len(l) > 0 {
		size = min(size, len(l))
		longer := followed(v.register, l[:size])
		switch {
		case finds.Check(longer) == api.OK:
			v.register = longer
			l = l[size:]
			size *= 2
		case size > 1:
			size /= 2
		default:
			v.refused++
			l = l[1:]
		}
	}
}

// followed returns r with events as its last ones.
func followed(r api.Register, l []api.Event) api.Register {
	events := slices.Clone(r.Events)
	for _, e := range l {
		e.No = len(events)
		events = append(events, e)
	}
	return api.Register{Events: events}
}

// add has a rule count, if the code accepts it.
func (v *view) add(x api.Rule) {
	x.No = len(v.code.Rules)
	c, err := rules.Add(v.code, x)
	if err != api.OK {
		v.refused++
		return
	}
	v.code = c
}

// tie has a reviewed tie count, if its number is new.
func (v *view) tie(t api.Tie) {
	if _, is := v.reviews[t.Source]; is {
		v.refused++
		return
	}
	v.reviews[t.Source] = review{tie: t}
}

// takeBack has the reviewed tie with a number be taken back, if there is one that was not.
func (v *view) takeBack(no int) {
	r, is := v.reviews[no]
	if !is || r.isBack {
		v.refused++
		return
	}
	r.isBack = true
	v.reviews[no] = r
}

// reviewed returns the reviewed ties, by their numbers.
func (v *view) reviewed() []api.Tie {
	var l []api.Tie
	for _, no := range slices.Sorted(maps.Keys(v.reviews)) {
		if r := v.reviews[no]; !r.isBack {
			l = append(l, r.tie)
		}
	}
	return l
}

// standing returns the finds that stand.
func (v *view) standing() []api.Find {
	l, _ := finds.Standing(v.register, v.day)
	return l
}
