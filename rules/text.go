package rules

import (
	"strconv"
	"strings"

	"bonehouse/api"
)

// The levels of expressions that are not told by infixes.
const (
	anyLevel  = 0 // what is needed where nothing is needed
	notLevel  = 3
	atomLevel = 7
)

const mostReads = 2 * api.MaxDepth // parts that are read within each other: for each node on the way down itself, and its parentheses

// fieldWords has the words of the fields, by their numbers.
var fieldWords = [...]string{"no", "element", "side", "age", "sex", "wear", "layer", "square", "zones"}

// infix is an operator that stands between its parts: its own level, and those that its parts need.
type infix struct {
	op                   int
	word                 string
	level, first, second int
}

var infixes = [...]infix{
	{api.OrO, " or ", 1, 1, 2},
	{api.AndO, " and ", 2, 2, 3},
	{api.LessO, " < ", 4, 5, 5},
	{api.EqualO, " = ", 4, 5, 5},
	{api.AddO, " + ", 5, 5, 6},
	{api.SubO, " - ", 5, 5, 6},
	{api.MulO, " * ", 6, 6, 7},
}

// infixOf returns the operator op, and whether it is one that stands between its parts.
func infixOf(op int) (infix, bool) {
	for _, x := range infixes {
		if x.op == op {
			return x, true
		}
	}
	return infix{}, false
}

// Print returns the text of e; ErrType unless it is a valid expression.
func Print(e api.Expr) (string, api.Errno) {
	if err := checkAny(e); err != api.OK {
		return "", err
	}
	return text(e), api.OK
}

// text returns the text of a valid expression.
func text(e api.Expr) string {
	switch e.Op {
	case api.NumberO:
		return strconv.Itoa(e.N)
	case api.FieldO:
		return findWord(e.N) + fieldWords[e.N/2]
	case api.MeasureO:
		return measureWord(e.N)
	case api.KnownO:
		return "known " + measureWord(e.N)
	case api.NotO:
		return "not " + partText(e.L[0], notLevel)
	case api.MeetO:
		return "meet(" + text(e.L[0]) + ", " + text(e.L[1]) + ")"
	case api.WithinO:
		return "within(" + text(e.L[0]) + ", " + text(e.L[1]) + ", " + strconv.Itoa(e.N) + ")"
	}
	x, _ := infixOf(e.Op)
	return partText(e.L[0], x.first) + x.word + partText(e.L[1], x.second)
}

// partText returns the text of a part where a level is needed.
func partText(e api.Expr, needed int) string {
	if levelOf(e) < needed {
		return "(" + text(e) + ")"
	}
	return text(e)
}

// levelOf returns the level of a valid expression.
func levelOf(e api.Expr) int {
	if x, is := infixOf(e.Op); is {
		return x.level
	}
	if e.Op == api.NotO {
		return notLevel
	}
	return atomLevel
}

// findWord returns how a word begins that asks the find to which n belongs.
func findWord(n int) string {
	if n%2 == 0 {
		return "a."
	}
	return "b."
}

// measureWord returns the word of the measurement n.
func measureWord(n int) string { return findWord(n) + "m" + strconv.Itoa(n/2) }

// Parse returns the condition with the text s; ErrParse if there is none.
func Parse(s string) (e api.Expr, err api.Errno) {
	defer func() {
		if recover() != nil {
			e, err = api.Expr{}, api.ErrParse
		}
	}()
	r := reader{rest: s, fields: fieldNumbers()}
	e = r.part(anyLevel)
	if Check(e) != api.OK || text(e) != s {
		return api.Expr{}, api.ErrParse
	}
	return e, api.OK
}

// noText is what a reader panics with when it cannot go on.
type noText struct{}

// fieldNumbers returns the numbers of the fields by their words.
func fieldNumbers() map[string]int {
	numbers := map[string]int{}
	for number, word := range fieldWords {
		numbers[word] = number
	}
	return numbers
}

// reader reads an expression. Of a text that is none it may read another one, or one that is not valid: that Parse tells by what it prints.
type reader struct {
	rest   string
	fields map[string]int
	reads  int // parts that are being read, within each other
	nodes  int
}

// takes reads word, and reports whether it comes next.
func (r *reader) takes(word string) bool {
	rest, is := strings.CutPrefix(r.rest, word)
	r.rest = rest
	return is
}

// must reads word, which has to come next.
func (r *reader) must(word string) {
	if !r.takes(word) {
		panic(noText{})
	}
}

// word reads all up to what ends a word.
func (r *reader) word() string {
	end := strings.IndexAny(r.rest, " (),")
	if end < 0 {
		end = len(r.rest)
	}
	word := r.rest[:end]
	r.rest = r.rest[end:]
	return word
}

// node returns e, and counts it.
func (r *reader) node(e api.Expr) api.Expr {
	r.nodes++
	if r.nodes > api.MaxExpr {
		panic(noText{})
	}
	return e
}

// part reads an expression of a level, or of a higher one.
func (r *reader) part(level int) api.Expr {
	r.reads++
	if r.reads > mostReads {
		panic(noText{})
	}
	e := r.first()
	for x, is := r.infix(level); is; x, is = r.infix(level) {
		second := r.part(x.second)
		e = r.node(api.Expr{Op: x.op, L: []api.Expr{e, second}})
	}
	r.reads--
	return e
}

// infix reads an operator of a level, or of a higher one, and reports whether one comes next.
func (r *reader) infix(level int) (infix, bool) {
	for _, x := range infixes {
		if x.level >= level && r.takes(x.word) {
			return x, true
		}
	}
	return infix{}, false
}

// first reads what stands ahead of all operators between parts.
func (r *reader) first() api.Expr {
	switch {
	case r.takes("("):
		e := r.part(anyLevel)
		r.must(")")
		return e
	case r.takes("not "):
		part := r.part(notLevel)
		return r.node(api.Expr{Op: api.NotO, L: []api.Expr{part}})
	case r.takes("meet("):
		l := r.both()
		r.must(")")
		return r.node(api.Expr{Op: api.MeetO, L: l})
	case r.takes("within("):
		l := r.both()
		r.must(", ")
		n := number(r.word())
		r.must(")")
		return r.node(api.Expr{Op: api.WithinO, N: n, L: l})
	case r.takes("known "):
		e := r.leaf()
		if e.Op != api.MeasureO {
			panic(noText{})
		}
		return r.node(api.Expr{Op: api.KnownO, N: e.N})
	}
	return r.node(r.leaf())
}

// both reads two parts with a comma between them.
func (r *reader) both() []api.Expr {
	first := r.part(anyLevel)
	r.must(", ")
	second := r.part(anyLevel)
	return []api.Expr{first, second}
}

// leaf reads a number, a field or a measurement.
func (r *reader) leaf() api.Expr {
	word := r.word()
	find, name, is := strings.Cut(word, ".")
	if !is {
		return api.Expr{Op: api.NumberO, N: number(word)}
	}
	which := 0
	switch find {
	case "a":
	case "b":
		which = 1
	default:
		panic(noText{})
	}
	if field, is := r.fields[name]; is {
		return api.Expr{Op: api.FieldO, N: 2*field + which}
	}
	kind, is := strings.CutPrefix(name, "m")
	if !is {
		panic(noText{})
	}
	return api.Expr{Op: api.MeasureO, N: 2*number(kind) + which}
}

// number returns the number with the text t.
func number(t string) int {
	n, err := strconv.Atoi(t)
	if err != nil {
		panic(noText{})
	}
	return n
}
