package rules_test

import (
	"math"
	"strings"
	"testing"

	"bonehouse/api"
	"bonehouse/rules"
)

// forms returns a valid expression of each operator with its type: 'n', 's' or 't', and the least and the greatest N that it can have.
func forms() []struct {
	e           api.Expr
	gives       byte
	least, most int
} {
	n, s, t := number(1), field(16), node(api.KnownO, 3)
	return []struct {
		e           api.Expr
		gives       byte
		least, most int
	}{
		{number(5), 'n', -1000000, 1000000}, {field(3), 'n', 0, 15}, {field(16), 's', 16, 17}, {node(api.MeasureO, 7), 'n', 0, 31},
		{node(api.AddO, 0, n, n), 'n', 0, 0}, {node(api.SubO, 0, n, n), 'n', 0, 0}, {node(api.MulO, 0, n, n), 'n', 0, 0},
		{node(api.LessO, 0, n, n), 't', 0, 0}, {node(api.EqualO, 0, n, n), 't', 0, 0}, {node(api.WithinO, 4, n, n), 't', 0, 1000000},
		{node(api.MeetO, 0, s, s), 't', 0, 0}, {node(api.KnownO, 7), 't', 0, 31},
		{node(api.AndO, 0, t, t), 't', 0, 0}, {node(api.OrO, 0, t, t), 't', 0, 0}, {node(api.NotO, 0, t), 't', 0, 0},
	}
}

// typeOf returns the type of an expression, as far as the package tells it: 't' of a condition, 'n' of what has a Range, 's' of other valid ones, 0 if it is not valid.
func typeOf(t *testing.T, e api.Expr) byte {
	t.Helper()
	_, err := rules.Print(e)
	if err != api.OK && err != api.ErrType {
		t.Fatal(e, err)
	}
	check := rules.Check(e)
	_, _, inRange := rules.Range(e, left(), either())
	switch {
	case err == api.OK && check == api.OK && inRange == api.ErrType:
		return 't'
	case err == api.OK && check == api.ErrType && inRange == api.OK:
		return 'n'
	case err == api.OK && check == api.ErrType && inRange == api.ErrType:
		return 's'
	case err != api.OK && check == api.ErrType && inRange == api.ErrType:
		return 0
	}
	t.Fatal(e, err, check, inRange)
	return 0
}

// P3.1: each line of the table, with N at both ends and beyond them.
func TestForms(t *testing.T) {
	for _, x := range forms() {
		for _, n := range []int{x.least, x.most} {
			e := x.e
			e.N = n
			if got := typeOf(t, e); got != x.gives {
				t.Error(e, string(got))
			}
		}
		for _, n := range []int{x.least - 1, x.most + 1, math.MinInt, math.MaxInt, math.MinInt + 1} {
			e := x.e
			e.N = n
			want := byte(0)
			if e.Op == api.FieldO && n == 15 { // the field ahead of the sets, or behind the numbers, is of the other type
				want = 'n'
			}
			if e.Op == api.FieldO && n == 16 {
				want = 's'
			}
			if got := typeOf(t, e); got != want {
				t.Error(e, string(got))
			}
		}
	}
	for _, op := range []int{0, -1, 15, math.MinInt, math.MaxInt} {
		for _, l := range [][]api.Expr{nil, {number(1)}, {number(1), number(1)}} {
			if got := typeOf(t, node(op, 0, l...)); got != 0 {
				t.Error(op, l)
			}
		}
	}
}

// P3.1: each operator with parts of each type, and with too few and too many.
func TestParts(t *testing.T) {
	takes := map[int]string{api.AddO: "nn", api.SubO: "nn", api.MulO: "nn", api.LessO: "nn", api.EqualO: "nn", api.WithinO: "nn", api.MeetO: "ss", api.AndO: "tt", api.OrO: "tt", api.NotO: "t"}
	kinds := map[string]api.Expr{"n": number(1), "s": field(17), "t": yes(), "x": {}}
	for _, x := range forms() {
		for first, d := range kinds {
			for _, c := range []struct {
				types string
				l     []api.Expr
			}{{"", []api.Expr{}}, {first, []api.Expr{d}}, {first + first + first, []api.Expr{d, d, d}}} {
				e := x.e
				e.L = c.l
				if got := typeOf(t, e); (got == x.gives) != (takes[e.Op] == c.types) {
					t.Error(e, string(got))
				}
			}
			for second, f := range kinds {
				e := x.e
				e.L = []api.Expr{d, f}
				if got := typeOf(t, e); (got == x.gives) != (takes[e.Op] == first+second) {
					t.Error(e, string(got))
				}
			}
		}
	}
}

// chain returns an OrO of so many conditions that are known to be one node each, as flat as it can be.
func chain(count int) api.Expr {
	if count == 1 {
		return node(api.KnownO, 1)
	}
	return node(api.OrO, 0, chain(count/2), chain(count-count/2))
}

// deep returns a condition that is nested so deep, at least 1.
func deep(depth int) api.Expr {
	e := node(api.KnownO, 1)
	for range depth - 1 {
		e = node(api.NotO, 0, e)
	}
	return e
}

// P3.1: as many nodes as there can be, and one more; as deep as it can be, and deeper.
func TestSizes(t *testing.T) {
	for _, x := range []struct {
		e            api.Expr
		nodes, depth int
		want         api.Errno
	}{
		{node(api.NotO, 0, chain(64)), 128, 8, api.OK}, {chain(65), 129, 8, api.ErrType}, {chain(64), 127, 7, api.OK}, {chain(1000), 1999, 11, api.ErrType},
		{deep(16), 16, 16, api.OK}, {deep(17), 17, 17, api.ErrType}, {deep(1), 1, 1, api.OK}, {deep(60000), 60000, 60000, api.ErrType},
		{node(api.AndO, 0, deep(15), deep(3)), 19, 16, api.OK}, {node(api.AndO, 0, deep(3), deep(16)), 20, 17, api.ErrType},
		{api.Expr{}, 1, 1, api.ErrType}, {node(99, -3, api.Expr{}, number(5), node(98, 0, api.Expr{})), 5, 3, api.ErrType},
		{parse(t, "not a.no + 1 < b.no"), 6, 4, api.OK},
	} {
		if nodes, depth := rules.Size(x.e); nodes != x.nodes || depth != x.depth {
			t.Error(x.nodes, x.depth, nodes, depth)
		}
		if err := rules.Check(x.e); err != x.want {
			t.Error(x.nodes, x.depth, err)
		}
		s, err := rules.Print(x.e)
		if err != x.want || (s == "") != (err != api.OK) {
			t.Error(x.nodes, x.depth, err)
		}
		if e, err := rules.Parse(s); x.want == api.OK && (err != api.OK || !same(e, x.e)) {
			t.Error(x.nodes, x.depth, err)
		}
	}
	known := "known b.m0"
	for text, want := range map[string]api.Errno{
		"not " + known + strings.Repeat(" or "+known, 14): api.OK, // as deep as can be, with 30 nodes
		known + strings.Repeat(" or "+known, 15):          api.OK,
		known + strings.Repeat(" or "+known, 16):          api.ErrParse,
		strings.Repeat("not ", 15) + known:                api.OK,
		strings.Repeat("not ", 16) + known:                api.ErrParse,
	} {
		if _, err := rules.Parse(text); err != want {
			t.Error(text, err)
		}
	}
	big := print(t, chain(64))
	if _, err := rules.Parse(big + " or " + known); err != api.ErrParse { // 129 nodes, 8 deep
		t.Error(err)
	}
}

// P3.1: an expression with more nodes than anything could go through, by parts that are there many times, is not valid, and that is soon told.
func TestHugeExpressions(t *testing.T) {
	for _, op := range []int{api.OrO, api.AddO, api.MulO} {
		e := node(api.KnownO, 0)
		if op != api.OrO {
			e = number(1)
		}
		for range 200 {
			e = node(op, 0, e, e)
		}
		_, first := rules.Print(e)
		_, second := rules.Fields(e)
		_, third := rules.Swap(e)
		_, fourth := rules.Fold(e)
		_, _, fifth := rules.Eval(e, left(), either())
		_, _, sixth := rules.Range(e, left(), either())
		for i, err := range []api.Errno{rules.Check(e), first, second, third, fourth, fifth, sixth} {
			if err != api.ErrType {
				t.Error(op, i, err)
			}
		}
	}
	wide := node(api.AndO, 0, make([]api.Expr, 1<<20)...)
	if err := rules.Check(wide); err != api.ErrType {
		t.Error(err)
	}
	if n, d := rules.Size(wide); n != 1<<20+1 || d != 2 {
		t.Error(n, d)
	}
}

// reaching returns an expression of the type number that reaches as far as n, from 0 to MaxReach.
func reaching(n int) api.Expr {
	const million = 1000000
	high := node(api.AddO, 0, node(api.MulO, 0, number(-million), number(n/million/million)), number(n/million%million))
	return node(api.AddO, 0, node(api.MulO, 0, number(million), high), number(-(n % million)))
}

// P3.1: how far each expression reaches, by what can be added to it so that the sum is still valid.
func TestReaches(t *testing.T) {
	reaches := []int{4095, 31, 2, 120, 2, 7, 255, 255}
	type reach struct {
		e api.Expr
		n int
	}
	l := []reach{{node(api.MeasureO, 0), 101000}, {node(api.MeasureO, 31), 101000}}
	for n := range 16 {
		l = append(l, reach{field(n), reaches[n/2]})
	}
	for _, n := range []int{0, 1, -1, 7, 1000000, -1000000} {
		l = append(l, reach{number(n), max(n, -n)})
	}
	for _, x := range slicesOf(l) {
		l = append(l, reach{node(api.AddO, 0, x[0].e, x[1].e), x[0].n + x[1].n}, reach{node(api.SubO, 0, x[0].e, x[1].e), x[0].n + x[1].n}, reach{node(api.MulO, 0, x[0].e, x[1].e), x[0].n * x[1].n})
	}
	for _, x := range l {
		for _, op := range []int{api.AddO, api.SubO} {
			if e := node(op, 0, x.e, reaching(api.MaxReach-x.n)); typeOf(t, e) != 'n' {
				t.Error(e, x.n)
			}
			if x.n > 0 {
				if e := node(op, 0, reaching(api.MaxReach-x.n+1), x.e); typeOf(t, e) != 0 {
					t.Error(e, x.n)
				}
			}
		}
		whole := node(api.MulO, 0, reaching(api.MaxReach/max(x.n, 1)), x.e)
		if typeOf(t, whole) != 'n' {
			t.Error(whole, x.n)
		}
		beyond := node(api.MulO, 0, x.e, reaching(min(api.MaxReach, api.MaxReach/max(x.n, 1)+1)))
		if want := x.n <= 1; (typeOf(t, beyond) == 'n') != want {
			t.Error(beyond, x.n)
		}
	}
}

// slicesOf returns each two neighbours of a list.
func slicesOf[T any](l []T) [][2]T {
	var pairs [][2]T
	for i := 1; i < len(l); i++ {
		pairs = append(pairs, [2]T{l[i-1], l[i]})
	}
	return pairs
}

// P3.1: what reaches too far makes what it is a part of invalid, also where the whole comes to less, and where the product is beyond an int.
func TestTooFar(t *testing.T) {
	half := reaching(1 << 49)
	full := reaching(api.MaxReach)
	for i, x := range []struct {
		e    api.Expr
		want byte
	}{
		{full, 'n'}, {node(api.MulO, 0, full, number(1)), 'n'}, {node(api.MulO, 0, full, number(-1)), 'n'}, {node(api.MulO, 0, full, number(0)), 'n'}, {node(api.MulO, 0, number(0), full), 'n'},
		{node(api.AddO, 0, full, number(0)), 'n'}, {node(api.AddO, 0, full, number(1)), 0}, {node(api.SubO, 0, full, number(-1)), 0}, {node(api.SubO, 0, full, full), 0},
		{node(api.MulO, 0, full, number(2)), 0}, {node(api.MulO, 0, full, number(1<<13)), 0}, {node(api.MulO, 0, full, number(1<<14)), 0}, {node(api.MulO, 0, number(1<<15), full), 0}, {node(api.MulO, 0, full, full), 0},
		{node(api.AddO, 0, half, half), 'n'}, {node(api.AddO, 0, node(api.AddO, 0, half, half), number(1)), 0},
		{node(api.MulO, 0, number(0), node(api.MulO, 0, full, full)), 0}, {node(api.LessO, 0, node(api.MulO, 0, full, full), number(0)), 0},
		{node(api.LessO, 0, full, full), 't'}, {node(api.WithinO, 1000000, full, full), 't'}, {node(api.AndO, 0, node(api.LessO, 0, full, full), node(api.EqualO, 0, full, full)), 't'},
	} {
		if got := typeOf(t, x.e); got != x.want {
			t.Error(i, string(got))
		}
	}
}
