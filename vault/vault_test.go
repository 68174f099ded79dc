package vault_test

import (
	"fmt"
	"slices"
	"strings"
	"testing"

	"bonehouse/api"
	"bonehouse/vault"
)

// checks fails unless Check tells whether a line is a command.
func checks(t *testing.T, line string, want bool) {
	t.Helper()
	err := vault.Check(line)
	if err != api.OK && err != api.ErrCommand || (err == api.OK) != want {
		t.Errorf("%q: %d, not %v", line, err, want)
	}
	if isCommand(line) != want {
		t.Errorf("%q: the model says %v", line, !want)
	}
}

// commands returns lines of all kinds.
func commands() []string {
	l := []string{
		"begin 8 1 1000 1", "day 1048576", "send 0 1 0123", "send 7 7 3", "talk 0 1", "talk 3 3", "sendall", "crash 0 1000", "open 0 9876543210", "compact 7", "refused 0", "finds 1", "strength 2", "least 3", "repeat 4",
		"relate 0 1 4095 32", "relate 7 0 0 0", "plan 0 1 2 0 1/2/10000", "plan 0 1 2 32 0/4095/0 1/1/1 1/2/3 1/2/3 1/2/3 1/2/3 1/2/3 4/5/6", "claims 5", "rulings 6", "buried 7", "agree 0 0", "agree 0 7",
	}
	for _, form := range forms() {
		l = append(l, "write 0 "+form)
	}
	return l
}

// forms returns forms of all kinds.
func forms() []string {
	return []string{
		"enter find 1 12 1 0-1 20-30 1 0 1 1", "enter find 4095 31 3 0,2,15 0-120 4 7 255 255 3=400/5 4=0/0", "enter find 0 0 0 0 0-0 0 0 0 0", "join 1 2 9", "split 9", "measure 1 3=400/5", "measure 4095 15=100000/1000", "date 1 20-30", "assign 1 12 2 0,3 1 7", "withdraw 4095",
		same12, "rule 2047 1048576 together 100 4095 a.no = 1", "rule 0 0 apart 1 0 " + longText(32), "gone 5 7", "gone 2047 1048576",
		"tie 2048 1 2 apart 100 4095", "tie 4095 0 4095 together 1 0", "untie 2048", "untie 4095",
		"keep", "claim 7 100", "object 511 1", "sample 0 1 100", "drop 0 4095", "lease 4095 4095", "give 511", "bury 0",
	}
}

// longText returns a condition of so many parts; 32 are as many as there can be.
func longText(number int) string {
	if number == 1 {
		return "within(a.element, b.element, 1000000)"
	}
	second := longText(number / 2)
	if number > 3 {
		second = "(" + second + ")"
	}
	return longText(number-number/2) + " and " + second
}

// P10.1: the commands and forms of the chapter.
func TestCheckKinds(t *testing.T) {
	for _, line := range commands() {
		checks(t, line, true)
	}
	for _, line := range []string{
		"", " ", "begin", "x", "Begin 1 1 1 1", "sendall 0", "sendall ", " sendall", "sendall\n", "day", "day 1 1", "day 1\n", "send 0 1", "send 0 1 ", "send 0 1 4", "send 0 1 01x", "send 0 1 0 1", "send 0 1 -1", "talk 0", "talk 0 1 2", "open 0", "open 0 ", "open 0 a", "open 0 0x", "open 0 1 2", "open 0 :", "open 0 /", "compact", "compact 0 1", "least 0 ", "relate 0 1 2", "relate 0 1 2 3 4", "agree 0",
		"plan 0 1 2 0", "plan 0 1 2 0 ", "plan 0 1 2 0 1/2", "plan 0 1 2 0 1/2/3/4", "plan 0 1 2 0 1/2/", "plan 0 1 2 0 1/2/3 ", "plan 0 1 2 0  1/2/3", "plan 0 1 2 0 1/2/3  1/2/3", "plan 0 1 2 0 1 2 3", "plan 0 1 2 0 1/2 3", "plan 0 1 2 0 1 2/3", "plan 0 1 2 0" + strings.Repeat(" 1/2/3", 7) + " 1/2 3", "plan 0 1 2 0" + strings.Repeat(" 1/2/3", 7) + " 1 2 3", "plan 0 1 2 0" + strings.Repeat(" 1/2/3", 8) + " ", "plan 0 1 2 0" + strings.Repeat(" 1/2/3", 9), "plan 0 1 2 0" + strings.Repeat(" 1/2/3", 1000),
		"write 0", "write 0 ", "write", "write keep", "write 0  keep", "write 0 keep ", "write 0 keep 1", "write 0 x", "write 0 kee", "write 0 enter", "write 0 enter 1", "write 0 enter find", "write 0 enter find 1 12 0 0-1 20-30 1 0 1 1", "write 0 find 1 12 1 0-1 20-30 1 0 1 1", "write 0 enter 0 5 find 1 12 1 0-1 20-30 1 0 1 1", "write 0 join 1 1 9", "write 0 join 1 2", "write 0 split", "write 0 split 9 1", "write 0 measure 1 3=400", "write 0 date 1 30-20", "write 0 withdraw 4096",
		"write 0 rule 2048 0 apart 60 9 a.no = 1", "write 0 rule 5 0 apart 60 9 a.no", "write 0 rule 5 0 near 60 9 a.no = 1", "write 0 rule 5 0 0 apart 60 9 a.no = 1", "write 0 rule 5 0 apart 60 9", "write 0 rule", "write 0 rule 5", "write 0 gone 5", "write 0 gone 5 7 8", "write 0 gone 2048 7", "write 0 gone", "write 0 gone 05 7", "write 0 gone  7",
		"write 0 tie 2047 1 2 apart 1 1", "write 0 tie 2048 1 1 apart 1 1", "write 0 tie 2048 1 2 near 1 1", "write 0 tie 2048 1 2 Apart 1 1", "write 0 tie 2048 1 2 apart 1", "write 0 tie 2048 1 2 apart 1 1 1", "write 0 tie", "write 0 untie", "write 0 untie 2047", "write 0 untie 2048 1", "write 0 untie 4096",
		"write 0 claim 7", "write 0 claim 7 100 1", "write 0 object 512 1", "write 0 sample 0 1 101", "write 0 sample 0 1", "write 0 bury", "write 0 give 512", "write 0 0 0 0 keep", "write 0 lease 1 4096", "write 0 " + strings.Repeat("x", 3000),
	} {
		checks(t, line, false)
	}
}

// P10.1: the numbers of commands and forms, from the least to the greatest ones.
func TestCheckNumbers(t *testing.T) {
	for _, x := range []struct {
		line   string // # stands for the number
		lo, hi int
	}{
		{"begin # 1 1 1", 1, 8}, {"begin 1 # 1 1", 1, 1000}, {"begin 1 1 # 1", 1, 1000}, {"begin 1 1 1 #", 1, 1000}, {"day #", 1, 1048576}, {"write # keep", 0, 7}, {"send # 0 1", 0, 7}, {"send 0 # 1", 0, 7}, {"talk # 0", 0, 7}, {"talk 0 #", 0, 7}, {"crash # 1", 0, 7}, {"crash 0 #", 1, 1000}, {"open # 0", 0, 7},
		{"compact #", 0, 7}, {"refused #", 0, 7}, {"finds #", 0, 7}, {"strength #", 0, 7}, {"least #", 0, 7}, {"repeat #", 0, 7}, {"claims #", 0, 7}, {"rulings #", 0, 7}, {"buried #", 0, 7}, {"agree # 0", 0, 7}, {"agree 0 #", 0, 7},
		{"relate # 1 1 0", 0, 7}, {"relate 0 # 1 0", 0, 4095}, {"relate 0 1 # 0", 0, 4095}, {"relate 0 1 1 #", 0, 32}, {"plan # 1 1 0 1/1/1", 0, 7}, {"plan 0 # 1 0 1/1/1", 0, 4095}, {"plan 0 1 # 0 1/1/1", 0, 4095}, {"plan 0 1 1 # 1/1/1", 0, 32}, {"plan 0 1 1 0 #/1/1", 0, 4095}, {"plan 0 1 1 0 1/#/1", 0, 4095}, {"plan 0 1 1 0 1/1/#", 0, 10000}, {"plan 0 1 1 0 1/1/1 #/1/1", 0, 4095}, {"plan 0 1 1 0 1/1/1 1/1/#", 0, 10000},
		{"write 0 rule # 0 apart 1 0 a.no = 1", 0, 2047}, {"write 0 rule 0 # apart 1 0 a.no = 1", 0, 1048576}, {"write 0 rule 0 0 apart # 0 a.no = 1", 1, 100}, {"write 0 rule 0 0 apart 1 # a.no = 1", 0, 4095}, {"write 0 gone # 0", 0, 2047}, {"write 0 gone 0 #", 0, 1048576},
		{"write 0 tie # 1 2 apart 1 0", 2048, 4095}, {"write 0 tie 2048 # 5000 apart 1 0", 1, 0}, {"write 0 tie 2048 # 4000 apart 1 0", 0, 3999}, {"write 0 tie 2048 # 0 apart 1 0", 1, 4095}, {"write 0 tie 2048 0 # apart 1 0", 1, 4095}, {"write 0 tie 2048 1 2 apart # 0", 1, 100}, {"write 0 tie 2048 1 2 together 1 #", 0, 4095}, {"write 0 untie #", 2048, 4095},
		{"write 0 enter find # 0 0 0 0-0 0 0 0 0", 0, 4095}, {"write 0 join # 4000 1", 0, 3999}, {"write 0 join 4000 # 1", 0, 3999}, {"write 0 join 1 2 #", 0, 4095}, {"write 0 split #", 0, 4095}, {"write 0 measure # 0=0/0", 0, 4095}, {"write 0 date # 0-0", 0, 4095}, {"write 0 date 0 0-#", 0, 120}, {"write 0 assign # 0 0 0 0 0", 0, 4095}, {"write 0 withdraw #", 0, 4095},
		{"write 0 claim # 0", 0, 4095}, {"write 0 claim 0 #", 0, 4095}, {"write 0 object # 0", 0, 511}, {"write 0 sample 0 0 #", 0, 100}, {"write 0 drop # 0", 0, 511}, {"write 0 lease 0 #", 0, 4095}, {"write 0 give #", 0, 511}, {"write 0 bury #", 0, 511},
	} {
		with := func(word string) string { return strings.ReplaceAll(x.line, "#", word) }
		for _, n := range []int{x.lo, x.hi, (x.lo + x.hi) / 2} {
			checks(t, with(fmt.Sprint(n)), x.lo <= x.hi)
		}
		for _, n := range []int{x.lo - 1, x.hi + 1, -1, 1 << 40, -1 << 62} {
			checks(t, with(fmt.Sprint(n)), false)
		}
		for _, word := range []string{fmt.Sprintf("0%d", x.lo), fmt.Sprintf("+%d", x.lo), "-0", "00", "", "x", fmt.Sprintf("%d ", x.lo), fmt.Sprintf(" %d", x.lo), fmt.Sprintf("%d.0", x.lo), "99999999999999999999", "18446744073709551617", "0x1", "1_0", "٣"} {
			checks(t, with(word), false)
		}
	}
}

// P10.1: lines with changed bytes are commands exactly if the chapter says so.
func TestCheckChanged(t *testing.T) {
	x := noise(101)
	seen := map[bool]int{}
	for _, line := range commands() {
		for range 400 {
			changed := []byte(line)
			for range x.from(1, 2) {
				at := x.below(len(changed) + 1)
				more := one(&x, "0", "1", "7", "9", " ", "-", "/", ",", "a", "4095", "\n", "")
				changed = slices.Replace(changed, at, min(len(changed), at+x.below(2)), []byte(more)...)
			}
			want := isCommand(string(changed))
			checks(t, string(changed), want)
			seen[want]++
		}
	}
	if min(seen[false], seen[true]) < 1000 {
		t.Error(seen)
	}
}

// P10.1: the lines of a text.
func TestLines(t *testing.T) {
	many := strings.Repeat("x\n", 400)
	for i, x := range []struct {
		text string
		want []string
		err  api.Errno
	}{
		{"", nil, api.OK}, {"\n\n\n", nil, api.OK}, {"a", []string{"a"}, api.OK}, {"a\n", []string{"a"}, api.OK}, {"\na\n\nb", []string{"a", "b"}, api.OK}, {"#a\n#\n# \na#\n #", []string{"a#", " #"}, api.OK}, {" \n\r\n", []string{" ", "\r"}, api.OK},
		{many, strings.Fields(many), api.OK}, {many + "#\n\n#x", strings.Fields(many), api.OK}, {many + "x", nil, api.ErrLimit}, {"#\n" + many + "\n\ny\n", nil, api.ErrLimit}, {strings.Repeat("#\n", 5000) + "a", []string{"a"}, api.OK},
	} {
		if l, err := vault.Lines(x.text); !slices.Equal(l, x.want) || err != x.err {
			t.Error(i, l, err)
		}
	}
}

// P10.1: what Run returns.
func TestRun(t *testing.T) {
	for i, x := range []struct {
		text, out string
		n         int
		err       api.Errno
	}{
		{"", "", 0, api.OK}, {"# nothing\n\n", "", 0, api.OK},
		{"day 1\nbegin 1 5 10 20\nwrite 0 keep\n\nfinds 0\nleast 0", "error 101\n\n0.0\n\nerror 4\n", 0, api.OK},
		{"begin 1 5 10 20\nwrite 0 claim 1 2\nwrite 0 claim 3 4\nday 20\nwrite 0 keep\nclaims 0\nrulings 0\n", "\n0.0\n0.1\n20\n0.2\n0 3 5\n1 3 5\n0 5 1 2\n1 5 3 4\n", 0, api.OK},
		{"x", "", 0, api.ErrCommand}, {"day 1\n\n#x\nday 1\nx", "", 2, api.ErrCommand}, {"begin 1 1 1 1\nbegin 1 1 1 1 \nx\n", "", 1, api.ErrCommand}, {"day 1\n #\n", "", 1, api.ErrCommand},
		{strings.Repeat("day 1\n", 401), "", 0, api.ErrLimit}, {strings.Repeat("x\n", 401), "", 0, api.ErrLimit}, {strings.Repeat("day 1\n", 400), strings.Repeat("error 101\n", 400), 0, api.OK},
		{strings.Repeat("day 1\n", 399) + "day 0\n", "", 399, api.ErrCommand},
	} {
		if out, n, err := vault.Run(x.text); out != x.out || n != x.n || err != x.err {
			t.Errorf("%d: %q %d %d", i, out, n, err)
		}
	}
}

// P10.1: Run does what Do does.
func TestRunCampaigns(t *testing.T) {
	campaigns(102, 60, 80, func(l []string) {
		var want strings.Builder
		y, p := vault.New(), &paper{}
		l = slices.DeleteFunc(l, func(line string) bool { return vault.Check(line) != api.OK })
		for _, line := range l {
			out, err := y.Do(line)
			if text, fault := p.do(line); text != out || fault != err {
				t.Fatal(line)
			}
			if err != api.OK {
				out = fmt.Sprint("error ", int(err))
			}
			want.WriteString(out + "\n")
		}
		if out, n, err := vault.Run("# a campaign\n" + strings.Join(l, "\n\n")); out != want.String() || n != 0 || err != api.OK {
			t.Fatal(out, n, err, want.String())
		}
	})
}

// P10.2 and P10.3: a model that New has not made. The zero one is as a new one; with none nothing is possible.
func TestNoModel(t *testing.T) {
	var zero vault.Model
	prints(t, &zero, "begin 2 5 10 20", "")
	prints(t, &zero, "write 1 keep", "1.0")
	if s := zero.Transcript(); s != "> begin 2 5 10 20\n> write 1 keep\n< 1.0\n" || zero.Offices() != 2 {
		t.Error(s, zero.Offices())
	}
	var no *vault.Model
	fails(t, no, "x", api.ErrCommand)
	for _, line := range commands() {
		fails(t, no, line, api.ErrNotNow)
	}
	if no.Day() != 0 || no.Offices() != 0 || no.Transcript() != "" {
		t.Error(no.Day(), no.Offices(), no.Transcript())
	}
	for _, p := range []int{-1, 0, 8} {
		holdClosed(t, no, p, api.ErrArg)
		holdClosed(t, vault.New(), p, api.ErrArg)
	}
}
