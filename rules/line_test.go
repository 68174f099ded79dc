package rules_test

import (
	"strings"
	"testing"

	"bonehouse/api"
	"bonehouse/rules"
)

// lines has the lines of rules.
func lines() map[string]api.Rule {
	together := rule(4095, 4095, api.MaxDay, api.MaxDay, "known a.m0")
	together.Effect, together.Strength, together.Reviewer = api.TogetherF, 100, 4095
	least := rule(0, 0, 0, 0, "1 = 1")
	least.Strength, least.Reviewer = 1, 0
	return map[string]api.Rule{
		"rule 3 6 30 15 apart 50 7 a.no = 1 or b.no = 2":                    rule(3, 6, 30, 15, "a.no = 1 or b.no = 2"),
		"rule 4095 4095 1048576 1048576 together 100 4095 known a.m0":       together,
		"rule 0 0 0 0 apart 1 0 1 = 1":                                      least,
		"gone 2 5 30 25":                                                    gone(2, 5, 30, 25),
		"gone 0 0 0 0":                                                      gone(0, 0, 0, 0),
		"gone 4095 4095 1048576 1048576":                                    gone(4095, 4095, api.MaxDay, api.MaxDay),
		"rule 3 6 30 15 apart 50 7 within(a.no, b.no, 1) and not 1 + 2 = 3": rule(3, 6, 30, 15, "within(a.no, b.no, 1) and not 1 + 2 = 3"),
	}
}

// P3.6: lines and their rules.
func TestLines(t *testing.T) {
	for line, x := range lines() {
		if s, err := rules.PrintRule(x); s != line || err != api.OK {
			t.Error(line, s, err)
		}
		if y, err := rules.ParseRule(line); y != x || err != api.OK {
			t.Error(line, y, err)
		}
	}
}

// P3.6: what is not printed.
func TestNoLinesPrinted(t *testing.T) {
	for i, x := range []api.Rule{{}, rule(4096, 0, 0, 0, "1 = 1"), rule(0, 0, 0, 0, "1"), rule(0, 0, 0, 0, ""), gone(0, -1, 0, 0), gone(0, 0, api.MaxDay+1, 0), {Gone: true, Text: "1 = 1"}, {Gone: true, Effect: 1}} {
		if s, err := rules.PrintRule(x); s != "" || err != api.ErrRule {
			t.Error(i, s, err)
		}
	}
}

// P3.6: what is no line of a rule.
func TestNoLines(t *testing.T) {
	for _, s := range []string{
		"", " ", "rule", "gone", "gone ", "rule ", "gone 2", "gone 2 5 30", "gone 2 5 30 ", "gone 2 5 30 25 ", "gone 2 5 30 25 apart", "gone 2 5 30 25 apart 50 7 1 = 1", "gone 2 5 30 25\n", " gone 2 5 30 25", "gone  2 5 30 25", "Gone 2 5 30 25", "went 2 5 30 25", "gone 02 5 30 25", "gone 2 -5 30 25", "gone 2 5 +30 25", "gone 2 5 30 x", "gone 4096 5 30 25", "gone 2 5 30 1048577", "gone -0 5 30 25", "gone 2\t5 30 25",
		"rule 3 6 30 15", "rule 3 6 30 15 apart 50 7", "rule 3 6 30 15 apart 50 7 ", "rule 3 6 30 15 near 50 7 1 = 1", "rule 3 6 30 15 Apart 50 7 1 = 1", "rule 3 6 30 15 1 50 7 1 = 1", "rule 3 6 30 15  50 7 1 = 1", "rule 3 6 30 15 apart 0 7 1 = 1", "rule 3 6 30 15 apart 101 7 1 = 1", "rule 3 6 30 15 apart 50 4096 1 = 1", "rule 3 6 30 15 apart 50 -1 1 = 1", "rule 03 6 30 15 apart 50 7 1 = 1", "rule 3 6 30 15 apart 050 7 1 = 1", "rule 3 6 30 15 apart 50 07 1 = 1", "rule 3 6 30 15 apart +50 7 1 = 1",
		"rule 3 6 30 15 apart 50 7  1 = 1", "rule 3 6 30 15 apart 50 7 1 = 1 ", "rule 3 6 30 15 apart 50 7 1 = 1\n", "rule 3 6 30 15 apart 50 7 (1 = 1)", "rule 3 6 30 15 apart 50 7 1", "rule 3 6 30 15 apart 50 7 1 =", "rule 3 6 30 15 apart 50 1 = 1", "rule 6 30 15 apart 50 7 1 = 1", "rule 3 6 30 15 7 apart 50 7 1 = 1", " rule 3 6 30 15 apart 50 7 1 = 1", "rule  3 6 30 15 apart 50 7 1 = 1", "ruled 3 6 30 15 apart 50 7 1 = 1", "3 6 30 15 apart 50 7 1 = 1", " 3 6 30 15 apart 50 7 1 = 1",
		"rule 4096 6 30 15 apart 50 7 1 = 1", "rule 3 4096 30 15 apart 50 7 1 = 1", "rule 3 6 1048577 15 apart 50 7 1 = 1", "rule 3 6 30 1048577 apart 50 7 1 = 1", "rule 3 6 30 99999999999999999999 apart 50 7 1 = 1", "rule x 6 30 15 apart 50 7 1 = 1", "rule 3 6 30 15 apart fifty 7 1 = 1",
		"rule 3 6 30 15 apart 50 7 " + strings.Repeat("not ", 1<<20), strings.Repeat("rule ", 1<<20), strings.Repeat(" ", 1<<20), "gone " + strings.Repeat("1", 1<<20) + " 5 30 25",
	} {
		if x, err := rules.ParseRule(s); x != (api.Rule{}) || err != api.ErrParse {
			t.Errorf("%.60s %v %v", s, x, err)
		}
	}
}

// P3.6: PrintRule and ParseRule undo each other; a line that is nearly that of a rule is that of the rule that ParseRule returns, or of none.
func TestLinesAreInverse(t *testing.T) {
	x := noise(16)
	signs := []string{"", " ", "0", "1", "-", "+", "a", "apart", "together", "gone", "\n"}
	sound := 0
	for _, e := range conditions(t, &x, 1000) {
		r := aRule(&x, print(t, e))
		if x.below(4) == 0 {
			r = gone(r.No, r.Name, r.Known, r.At)
		}
		line, err := rules.PrintRule(r)
		if err != api.OK {
			t.Fatal(r, err)
		}
		if y, err := rules.ParseRule(line); y != r || err != api.OK {
			t.Fatal(line, y, err)
		}
		for range 20 {
			from := x.below(min(len(line), 40) + 1)
			to := min(len(line), from+x.one(0, 1, 1, 5))
			near := line[:from] + signs[x.below(len(signs))] + line[to:]
			y, err := rules.ParseRule(near)
			if err != api.OK && (err != api.ErrParse || y != api.Rule{}) {
				t.Fatal(near, y, err)
			}
			if err == api.OK {
				sound++
				if s, err := rules.PrintRule(y); s != near || err != api.OK {
					t.Fatal(near, s, err)
				}
			}
		}
	}
	if sound < 1000 {
		t.Error(sound)
	}
}
