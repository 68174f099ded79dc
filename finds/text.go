package finds

import (
	"strconv"
	"strings"

	"bonehouse/api"
	"bonehouse/bits"
)

const (
	headWords = 3                                       // of the line of an event: its word, No and Known
	findWords = 10                                      // of the line of a find, ahead of its measurements
	maxWords  = headWords + findWords + api.MaxMeasures // of any line
)

// kindWord returns the first word of the lines of a kind of events.
func kindWord(kind int) string {
	switch kind {
	case api.EnterE:
		return "enter"
	case api.JoinE:
		return "join"
	case api.SplitE:
		return "split"
	case api.MeasureE:
		return "measure"
	case api.DateE:
		return "date"
	case api.AssignE:
		return "assign"
	case api.WithdrawE:
		return "withdraw"
	}
	return ""
}

// PrintFind returns the line of f; ErrFind unless it is valid.
func PrintFind(f api.Find) (string, api.Errno) {
	if err := CheckFind(f); err != api.OK {
		return "", err
	}
	return line(findLine(f)), api.OK
}

// PrintEvent returns the line of e; ErrEvent unless it is well-formed.
func PrintEvent(e api.Event) (string, api.Errno) {
	if err := CheckEvent(e); err != api.OK {
		return "", err
	}
	words := append([]string{kindWord(e.Kind)}, decimals(e.No, e.Known)...)
	if e.Kind == api.EnterE { // the line of the find has its number
		return line(append(words, findLine(e.Data)...)), api.OK
	}
	words = append(words, decimals(e.Find)...)
	switch e.Kind {
	case api.JoinE:
		words = append(words, decimals(e.Other, e.Data.No)...)
	case api.MeasureE:
		words = append(words, measureWord(e.Data.Measures[0]))
	case api.DateE:
		words = append(words, ageWord(e.Data.Age))
	case api.AssignE:
		words = append(words, decimals(e.Data.Element, e.Data.Side)...)
		words = append(words, bits.Print(e.Data.Zones))
		words = append(words, decimals(e.Data.Sex, e.Data.Wear)...)
	}
	return line(words), api.OK
}

// line returns the line of words.
func line(words []string) string { return strings.Join(words, " ") }

// findLine returns the words of the line of f.
func findLine(f api.Find) []string {
	words := append([]string{"find"}, decimals(f.No, f.Element, f.Side)...)
	words = append(words, bits.Print(f.Zones), ageWord(f.Age))
	words = append(words, decimals(f.Sex, f.Wear, f.Layer, f.Square)...)
	for _, m := range f.Measures {
		words = append(words, measureWord(m))
	}
	return words
}

// decimals returns the words of numbers.
func decimals(numbers ...int) []string {
	var words []string
	for _, n := range numbers {
		words = append(words, strconv.Itoa(n))
	}
	return words
}

// measureWord returns the word of m.
func measureWord(m api.Measure) string {
	return strconv.Itoa(m.Kind) + "=" + strconv.Itoa(m.Value) + "/" + strconv.Itoa(m.Error)
}

// ageWord returns the word of an age.
func ageWord(a api.Span) string { return strconv.Itoa(a.Lo) + "-" + strconv.Itoa(a.Hi) }

// ParseFind returns the valid find with the line s; ErrParse if there is none.
func ParseFind(s string) (api.Find, api.Errno) {
	f := fieldsOf(s).find(0)
	if text, err := PrintFind(f); err != api.OK || text != s {
		return api.Find{}, api.ErrParse
	}
	return f, api.OK
}

// ParseEvent returns the well-formed event with the line s; ErrParse if there is none.
func ParseEvent(s string) (api.Event, api.Errno) {
	e := fieldsOf(s).event()
	if text, err := PrintEvent(e); err != api.OK || text != s {
		return api.Event{}, api.ErrParse
	}
	return e, api.OK
}

// fields is the words of a line that is read. What is read of a line that is not of the required form has no such line itself, or is invalid: that tells it from others, so the readers let all forms pass.
type fields []string

// fieldsOf returns the words of s; all that is behind the last one that a line can have is a word.
func fieldsOf(s string) fields { return strings.SplitN(s, " ", maxWords+1) }

// word returns the i-th word; an empty one behind the last one.
func (w fields) word(i int) string {
	if i >= len(w) {
		return ""
	}
	return w[i]
}

// number returns the number that is the i-th word.
func (w fields) number(i int) int { return number(w.word(i)) }

// number returns the number with the text t; -1, which none can be here, if it has not the form of one.
func number(t string) int {
	n, err := strconv.Atoi(t)
	if err != nil {
		return -1
	}
	return n
}

// age returns the age that is the i-th word.
func (w fields) age(i int) api.Span {
	lo, hi, _ := strings.Cut(w.word(i), "-")
	return api.Span{Lo: number(lo), Hi: number(hi)}
}

// zones returns the zones that are the i-th word; none, which no find has, if it has not the form of zones.
func (w fields) zones(i int) api.Set {
	s, _ := bits.Parse(w.word(i))
	return s
}

// measure returns the measurement that is the i-th word.
func (w fields) measure(i int) api.Measure {
	kind, rest, _ := strings.Cut(w.word(i), "=")
	value, span, _ := strings.Cut(rest, "/")
	return api.Measure{Kind: number(kind), Value: number(value), Error: number(span)}
}

// find returns the find of which the line begins with the i-th word.
func (w fields) find(i int) api.Find {
	f := api.Find{
		No: w.number(i + 1), Element: w.number(i + 2), Side: w.number(i + 3), Zones: w.zones(i + 4), Age: w.age(i + 5),
		Sex: w.number(i + 6), Wear: w.number(i + 7), Layer: w.number(i + 8), Square: w.number(i + 9),
	}
	for i += findWords; i < len(w); i++ {
		f.Measures = append(f.Measures, w.measure(i))
	}
	return f
}

// event returns the event of the line.
func (w fields) event() api.Event {
	e := api.Event{No: w.number(1), Known: w.number(2), Kind: w.kind(), Find: w.number(headWords)}
	switch e.Kind {
	case api.EnterE:
		e.Data = w.find(headWords)
		e.Find = e.Data.No
	case api.JoinE:
		e.Other, e.Data.No = w.number(4), w.number(5)
	case api.MeasureE:
		e.Data.Measures = []api.Measure{w.measure(4)}
	case api.DateE:
		e.Data.Age = w.age(4)
	case api.AssignE:
		e.Data = api.Find{Element: w.number(4), Side: w.number(5), Zones: w.zones(6), Sex: w.number(7), Wear: w.number(8)}
	}
	return e
}

// kind returns the kind of the events whose lines begin with the first word; 0 if there is none.
func (w fields) kind() int {
	for kind := api.EnterE; kind <= api.WithdrawE; kind++ {
		if kindWord(kind) == w.word(0) {
			return kind
		}
	}
	return 0
}
