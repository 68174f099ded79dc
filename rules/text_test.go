package rules_test

import (
	"slices"
	"strconv"
	"strings"
	"testing"

	"bonehouse/api"
	"bonehouse/rules"
)

// texts has texts of conditions, and what they mean.
func texts() map[string]api.Expr {
	n, m, k := number(1), number(2), number(3)
	t, u, v := node(api.KnownO, 0), node(api.KnownO, 1), node(api.KnownO, 31)
	less := func(d, e api.Expr) api.Expr { return node(api.LessO, 0, d, e) }
	two := func(op int, d, e api.Expr) api.Expr { return node(op, 0, d, e) }
	return map[string]api.Expr{
		"known a.m0":                                   t,
		"known b.m15":                                  v,
		"1 < 2":                                        less(n, m),
		"1 = 2":                                        two(api.EqualO, n, m),
		"-1000000 < 1000000":                           less(number(-1000000), number(1000000)),
		"0 = 0":                                        yes(),
		"meet(a.zones, b.zones)":                       two(api.MeetO, field(16), field(17)),
		"meet(b.zones, b.zones)":                       two(api.MeetO, field(17), field(17)),
		"within(1, 2, 0)":                              node(api.WithinO, 0, n, m),
		"within(1 - 2, 3 * 2, 1000000)":                node(api.WithinO, 1000000, two(api.SubO, n, m), two(api.MulO, k, m)),
		"a.m0 < b.m15":                                 less(node(api.MeasureO, 0), node(api.MeasureO, 31)),
		"1 - 2 - 3 < 1":                                less(two(api.SubO, two(api.SubO, n, m), k), n),
		"1 - (2 - 3) < 1":                              less(two(api.SubO, n, two(api.SubO, m, k)), n),
		"1 + (2 + 3) < 1":                              less(two(api.AddO, n, two(api.AddO, m, k)), n),
		"1 + 2 - 3 < 1":                                less(two(api.SubO, two(api.AddO, n, m), k), n),
		"1 + 2 * 3 < 1":                                less(two(api.AddO, n, two(api.MulO, m, k)), n),
		"1 * 2 + 3 < 1":                                less(two(api.AddO, two(api.MulO, n, m), k), n),
		"(1 + 2) * 3 < 1":                              less(two(api.MulO, two(api.AddO, n, m), k), n),
		"1 * (2 + 3) < 1":                              less(two(api.MulO, n, two(api.AddO, m, k)), n),
		"1 * 2 * 3 < 1":                                less(two(api.MulO, two(api.MulO, n, m), k), n),
		"1 * (2 * 3) < 1":                              less(two(api.MulO, n, two(api.MulO, m, k)), n),
		"1 < 2 - -3":                                   less(n, two(api.SubO, m, number(-3))),
		"1 + 2 = 3 * 1":                                two(api.EqualO, two(api.AddO, n, m), two(api.MulO, k, n)),
		"known a.m0 and known b.m0":                    two(api.AndO, t, u),
		"known a.m0 and known b.m0 and 1<2":            {},
		"known a.m0 and known b.m0 and 1 < 2":          two(api.AndO, two(api.AndO, t, u), less(n, m)),
		"known a.m0 and (known b.m0 and 1 < 2)":        two(api.AndO, t, two(api.AndO, u, less(n, m))),
		"known a.m0 or known b.m0 and 1 < 2":           two(api.OrO, t, two(api.AndO, u, less(n, m))),
		"(known a.m0 or known b.m0) and 1 < 2":         two(api.AndO, two(api.OrO, t, u), less(n, m)),
		"known a.m0 and known b.m0 or 1 < 2":           two(api.OrO, two(api.AndO, t, u), less(n, m)),
		"known a.m0 and (known b.m0 or 1 < 2)":         two(api.AndO, t, two(api.OrO, u, less(n, m))),
		"known a.m0 or known b.m0 or 1 < 2":            two(api.OrO, two(api.OrO, t, u), less(n, m)),
		"known a.m0 or (known b.m0 or 1 < 2)":          two(api.OrO, t, two(api.OrO, u, less(n, m))),
		"not known a.m0":                               node(api.NotO, 0, t),
		"not not known a.m0":                           node(api.NotO, 0, node(api.NotO, 0, t)),
		"not 1 < 2":                                    node(api.NotO, 0, less(n, m)),
		"not (known a.m0 and known b.m0)":              node(api.NotO, 0, two(api.AndO, t, u)),
		"not (known a.m0 or known b.m0)":               node(api.NotO, 0, two(api.OrO, t, u)),
		"not known a.m0 and known b.m0":                two(api.AndO, node(api.NotO, 0, t), u),
		"known a.m0 and not known b.m0":                two(api.AndO, t, node(api.NotO, 0, u)),
		"known a.m0 or not known b.m0":                 two(api.OrO, t, node(api.NotO, 0, u)),
		"not meet(a.zones, b.zones)":                   node(api.NotO, 0, two(api.MeetO, field(16), field(17))),
		"not within(a.no, b.square, 7) or known b.m15": two(api.OrO, node(api.NotO, 0, node(api.WithinO, 7, field(0), field(15))), v),
	}
}

// P3.1: texts and what they mean. (What means nothing there has no text.)
func TestTexts(t *testing.T) {
	for text, want := range texts() {
		e, err := rules.Parse(text)
		if !same(e, want) || (err == api.OK) == zero(want) {
			t.Error(text, e, err)
		}
		if zero(want) {
			continue
		}
		if s, err := rules.Print(want); s != text || err != api.OK {
			t.Error(text, s, err)
		}
	}
	for which, find := range []string{"a.", "b."} {
		for n, name := range fieldNames()[:8] {
			if s := find + name + " = 1"; !same(parse(t, s), node(api.EqualO, 0, field(2*n+which), number(1))) {
				t.Error(s)
			}
		}
		for kind := range 16 {
			word := find + "m" + strconv.Itoa(kind)
			if !same(parse(t, word+" = 1"), node(api.EqualO, 0, node(api.MeasureO, 2*kind+which), number(1))) || !same(parse(t, "known "+word), node(api.KnownO, 2*kind+which)) {
				t.Error(word)
			}
		}
	}
}

// P3.1: the texts of what is not a condition.
func TestTextsOfParts(t *testing.T) {
	for n, name := range fieldNames() {
		for which, find := range []string{"a.", "b."} {
			if s, err := rules.Print(field(2*n + which)); s != find+name || err != api.OK {
				t.Error(find, name, s, err)
			}
		}
	}
	for text, e := range map[string]api.Expr{"-7": number(-7), "0": number(0), "a.m15": node(api.MeasureO, 30), "1 * (2 + b.age)": node(api.MulO, 0, number(1), node(api.AddO, 0, number(2), field(7)))} {
		if s, err := rules.Print(e); s != text || err != api.OK {
			t.Error(text, s, err)
		}
		if e, err := rules.Parse(text); !zero(e) || err != api.ErrParse {
			t.Error(text, err)
		}
	}
}

// P3.1: what is no text of a condition.
func TestNoTexts(t *testing.T) {
	for _, s := range []string{
		"", " ", "a", "a.", ".no", "a.no", "a.zones", "1", "-", "()", "(", ")", "not", "not ", "and", "a.no + 1", "meet", "meet(", "within(", "known", "known ",
		"(a.no = b.no)", "((a.no = b.no))", "(a.no) = b.no", "a.no = (b.no)", "(1 + 2) = 3", "1 = (2 + 3)", "(1 * 2) + 3 = 1", "1 + (2 * 3) = 1", "(1 + 2) + 3 = 1", "(a.no = 1) and a.no = 2", "a.no = 1 or (a.no = 1 and a.no = 2)", "not (a.no = 1)", "not (not a.no = 1)", "not (meet(a.zones, b.zones))", "(known a.m0) or known a.m0", "within((a.no), b.no, 1)", "within((1 + 2), b.no, 1)", "meet((a.zones), b.zones)", "within(1, 2, (3))", "known (a.m0)",
		"a.no = b.no ", " a.no = b.no", "a.no  = b.no", "a.no =  b.no", "a.no=b.no", "a.no= b.no", "a.no =b.no", "a.no\t= b.no", "a.no = b.no\n", "a.no = b.no\x00", "a.no = b.no)", "(a.no = b.no", "a.no = b.no(", "a.no = b.no,", "not  a.no = 1", "a.no = 1 and  a.no = 1", "a.no = 1and a.no = 1", "a.no = 1 and", "a.no = 1 and ", "and a.no = 1", " and a.no = 1", "a.no = 1 or or a.no = 1", "a.no = 1 and or a.no = 1", "a.no = 1 not a.no = 1", "a.no = 1 a.no = 1", "a.no = 1 xor a.no = 1",
		"meet(a.zones,b.zones)", "meet(a.zones , b.zones)", "meet(a.zones,  b.zones)", "meet( a.zones, b.zones)", "meet(a.zones, b.zones )", "meet (a.zones, b.zones)", "meet(a.zones)", "meet(a.zones, b.zones, 1)", "meet(a.zones, b.zones", "meet a.zones, b.zones", "meet(a.no, b.no)", "meet(a.zones, b.no)", "meet(1, 2)",
		"within(a.no, b.no)", "within(a.no, b.no, )", "within(a.no, b.no, 1", "within(a.no, b.no, 1, 2)", "within(a.no, b.no, -1)", "within(a.no, b.no, 1000001)", "within(a.no, b.no, 01)", "within(a.no, b.no, +1)", "within(a.no, b.no, a.no)", "within(a.no, b.no, 1 + 1)", "within(a.no, b.no,1)", "within(a.zones, b.zones, 1)", "within(a.no = 1, b.no, 1)", "within(a.no, b.no, 1) = 1", "within(a.no, b.no, 99999999999999999999)",
		"known a.no", "known 1", "known a.m16", "known a.m-1", "known a.m", "known a.m01", "known  a.m1", "known a.m1 = 1", "known a.zones", "known known a.m1", "known not a.m1", "knowna.m1",
		"a.m16 = 1", "a.m01 = 1", "a.m = 1", "a.m-1 = 1", "a.m+1 = 1", "a.m1.0 = 1", "a.mm1 = 1", "a.m1x = 1", "a.m9223372036854775807 = 1", "a.m-9223372036854775808 = 1", "a.m4611686018427387904 = 1", "a.m18446744073709551616 = 1",
		"c.no = 1", "A.no = 1", "a.No = 1", "a.NO = 1", "ab.no = 1", "a..no = 1", "a.no.no = 1", "a.no. = 1", ".a.no = 1", "a .no = 1", "a. no = 1", "a.sides = 1", "a.zone = 1", "no = 1", "a = 1", "a.M1 = 1", "-a.no = 1", "a.-no = 1", "--1 = 1", "- 1 = 1",
		"a.no = 01", "a.no = 00", "a.no = -0", "a.no = -01", "a.no = +1", "a.no = 1000001", "a.no = -1000001", "a.no = 1.0", "a.no = 1e3", "a.no = 0x1", "a.no = 1_0", "a.no = 99999999999999999999", "a.no = -99999999999999999999", "a.no = 9223372036854775808", "a.no = \u0661", "a.no = 1\xff",
		"a.no = 1 = 2", "a.no < 1 < 2", "a.no = 1 < 2", "a.no < b.no + 1 = 2", "a.no < (1 < 2)", "a.zones = b.zones", "a.zones < b.zones", "a.zones + 1 = 1", "a.no and b.no", "not a.no", "a.no = not a.no = 1", "a.no + not a.no = 1", "1 + (a.no = 1) = 1", "1 - 2", "1 > 2", "1 <= 2", "1 == 2", "1 != 2", "1 / 2 = 1", "1 -2 = 1", "1- 2 = 1", "1 -- 2 = 1", "1 + = 2", "+ 1 = 2", "= 1", "1 =", "1 = ", "1 < ", " < 1", "true", "false", "known a.m0 = known a.m0",
		"a.m0 * a.m0 * a.m0 * a.m0 = 1", "1000000 * 1000000 * 1000000 * 1000000 = 1",
	} {
		if e, err := rules.Parse(s); !zero(e) || err != api.ErrParse {
			t.Error(s, e, err)
		}
	}
}

// P3.1: long texts that are none are soon told.
func TestLongTexts(t *testing.T) {
	const count = 1 << 21
	for _, part := range []string{"(", ")", "not ", "1 + ", "known a.m0 or ", "meet(", "within(", "within(1, ", "1", "-", "a", "a.", "m", " ", ",", "1 + (", "known ", "not (", "\x00", "a.no < "} {
		for _, s := range []string{strings.Repeat(part, count), strings.Repeat(part, count) + "1 = 1", "1 = 1" + strings.Repeat(part, count)} {
			if e, err := rules.Parse(s); !zero(e) || err != api.ErrParse {
				t.Errorf("%.20s %v", s, err)
			}
		}
	}
	if _, err := rules.Parse("1 = 1 or " + strings.Repeat("(", 1<<20) + "1 = 1" + strings.Repeat(")", 1<<20)); err != api.ErrParse {
		t.Error(err)
	}
}

// P3.1: the texts with the most parentheses within each other: as deep as a condition can be, and one deeper.
func TestDeepTexts(t *testing.T) {
	for depth, want := range map[int]api.Errno{14: api.OK, 15: api.OK, 16: api.OK, 17: api.ErrType, 18: api.ErrType} {
		truth, mixed, sum := node(api.KnownO, 1), node(api.KnownO, 1), number(1)
		for i := range depth - 1 {
			truth = node(api.OrO, 0, node(api.KnownO, 0), truth)
			if i%2 == 0 {
				mixed = node(api.OrO, 0, node(api.KnownO, 0), mixed)
			} else {
				mixed = node(api.NotO, 0, mixed)
			}
			if i < depth-2 {
				sum = node(api.SubO, 0, number(2), sum)
			}
		}
		for _, e := range []api.Expr{truth, mixed, node(api.LessO, 0, number(0), sum), node(api.LessO, 0, sum, number(0)), node(api.WithinO, 3, number(0), sum)} {
			s, err := rules.Print(e)
			if err != want {
				t.Error(depth, err)
			}
			if err != api.OK {
				s = modelText(e)
			}
			d, err := rules.Parse(s)
			if want == api.OK && (!same(d, e) || err != api.OK) || want != api.OK && (!zero(d) || err != api.ErrParse) {
				t.Error(depth, s, err)
			}
		}
	}
}

// shape is an expression over one leaf, made of so many tokens: its text without parentheses that are not needed, and its level.
type shape struct {
	e api.Expr
	s string
}

// levels has the levels of the chapter's table.
func levels() map[int]int {
	return map[int]int{api.OrO: 1, api.AndO: 2, api.NotO: 3, api.LessO: 4, api.EqualO: 4, api.AddO: 5, api.SubO: 5, api.MulO: 6, api.NumberO: 7, api.FieldO: 7, api.MeasureO: 7, api.KnownO: 7, api.MeetO: 7, api.WithinO: 7}
}

// enclosed returns the text of a part where a level is needed, by the words of the chapter.
func enclosed(x shape, needed int) string {
	if levels()[x.e.Op] < needed {
		return "(" + x.s + ")"
	}
	return x.s
}

// shapes returns the expressions of so many leaves at most, that are joined by the operators, with at most so many NotO in a row if there is one.
func shapes(leaf shape, leaves, nots int, words map[int]string) []shape {
	by := make([][]shape, leaves+1)
	var all []shape
	for count := 1; count <= leaves; count++ {
		var l []shape
		if count == 1 {
			l = append(l, leaf)
		}
		for first := 1; first < count; first++ {
			for _, x := range by[first] {
				for _, y := range by[count-first] {
					for op, word := range words {
						own := levels()[op]
						l = append(l, shape{node(op, 0, x.e, y.e), enclosed(x, own) + word + enclosed(y, own+1)})
					}
				}
			}
		}
		for _, x := range slices.Clone(l) {
			for range nots {
				x = shape{node(api.NotO, 0, x.e), "not " + enclosed(x, 3)}
				l = append(l, x)
			}
		}
		by[count] = l
		all = append(all, l...)
	}
	return all
}

// P3.1: of all rows of tokens up to a length just those are texts that are the text of an expression, and each of these is that of its expression alone.
func TestAllTexts(t *testing.T) {
	for _, x := range []struct {
		leaf   shape
		words  map[int]string
		nots   int
		tokens []string
		around string // what follows, so that a number is part of a condition
	}{
		{shape{node(api.KnownO, 0), "known a.m0"}, map[int]string{api.AndO: " and ", api.OrO: " or "}, 2, []string{"known a.m0", " and ", " or ", "not ", "(", ")"}, ""},
		{shape{number(1), "1"}, map[int]string{api.AddO: " + ", api.SubO: " - ", api.MulO: " * "}, 0, []string{"1", " + ", " - ", " * ", "(", ")"}, " = 1"},
	} {
		want := map[string]api.Expr{}
		for _, y := range shapes(x.leaf, 4, x.nots, x.words) {
			if _, is := want[y.s]; is {
				t.Fatal("two of one text:", y.s)
			}
			want[y.s] = y.e
			if s := print(t, y.e); s != y.s {
				t.Fatal(y.s, s)
			}
		}
		l, found := []string{""}, 0
		for range 7 {
			var longer []string
			for _, s := range l {
				for _, token := range x.tokens {
					longer = append(longer, s+token)
				}
			}
			for _, s := range longer {
				if strings.Contains(s, "11") || strings.Contains(s, "not not not ") { // another number, or more of them than are made here
					continue
				}
				e, err := rules.Parse(s + x.around)
				if x.around != "" && err == api.OK {
					e = e.L[0]
				}
				meant, is := want[s]
				if is {
					found++
				}
				if is != (err == api.OK) || is && !same(e, meant) || err != api.OK && (err != api.ErrParse || !zero(e)) {
					t.Fatal(s, e, err)
				}
			}
			l = longer
		}
		if found < 40 {
			t.Error(found)
		}
	}
}

// P3.1: Print and Parse undo each other, and Print encloses what the levels ask for.
func TestTextsAreInverse(t *testing.T) {
	x := noise(2)
	for _, e := range conditions(t, &x, 4000) {
		s := print(t, e)
		if d, err := rules.Parse(s); !same(d, e) || err != api.OK {
			t.Fatal(s, d, err)
		}
		if m := modelText(e); m != s {
			t.Fatal(s, m)
		}
	}
}

// modelText returns the text of an expression by the table of the chapter.
func modelText(e api.Expr) string {
	words := map[int]string{api.AddO: " + ", api.SubO: " - ", api.MulO: " * ", api.LessO: " < ", api.EqualO: " = ", api.AndO: " and ", api.OrO: " or "}
	part := func(i, needed int) string { return enclosed(shape{e.L[i], modelText(e.L[i])}, needed) }
	find := [2]string{"a.", "b."}[max(e.N, -e.N)%2]
	switch e.Op {
	case api.NumberO:
		return strconv.Itoa(e.N)
	case api.FieldO:
		return find + fieldNames()[e.N/2]
	case api.MeasureO:
		return find + "m" + strconv.Itoa(e.N/2)
	case api.KnownO:
		return "known " + find + "m" + strconv.Itoa(e.N/2)
	case api.NotO:
		return "not " + part(0, 3)
	case api.MeetO:
		return "meet(" + part(0, 0) + ", " + part(1, 0) + ")"
	case api.WithinO:
		return "within(" + part(0, 0) + ", " + part(1, 0) + ", " + strconv.Itoa(e.N) + ")"
	case api.LessO, api.EqualO:
		return part(0, 5) + words[e.Op] + part(1, 5)
	}
	own := levels()[e.Op]
	return part(0, own) + words[e.Op] + part(1, own+1)
}

// P3.1: a text that is nearly that of a condition is that of the condition that Parse returns, or of none.
func TestNearTexts(t *testing.T) {
	x := noise(3)
	signs := []string{"", " ", "(", ")", "a", "b", ".", "m", "1", "0", "-", "+", "*", "<", "=", ",", "not ", " and ", " or ", "known ", "\n", "zones"}
	sound, none := 0, 0
	for _, e := range conditions(t, &x, 1500) {
		s := print(t, e)
		for range 20 {
			from := x.below(len(s) + 1)
			to := min(len(s), from+x.one(0, 1, 1, 2))
			near := s[:from] + signs[x.below(len(signs))] + s[to:]
			d, err := rules.Parse(near)
			if err == api.OK {
				sound++
				if print(t, d) != near || rules.Check(d) != api.OK {
					t.Fatal(near, d)
				}
			} else {
				none++
				if err != api.ErrParse || !zero(d) {
					t.Fatal(near, d, err)
				}
			}
		}
	}
	if sound < 1000 || none < 1000 {
		t.Error(sound, none)
	}
}
