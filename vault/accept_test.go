package vault_test

import (
	"slices"
	"strings"
	"testing"

	"bonehouse/api"
	"bonehouse/vault"
)

// four is lines of four finds, the first two of which are kept apart; the fifth one is joined with the fourth one.
func four() []string {
	return []string{
		"begin 1 5 10 20", "write 0 enter find 1 12 1 0 20-30 0 0 1 1", "write 0 enter find 2 12 1 0 20-30 0 0 1 1", "write 0 enter find 3 12 1 1 20-30 0 0 1 1", "write 0 enter find 4 12 1 1 20-30 0 0 1 1", "write 0 tie 2048 1 2 apart 50 1",
	}
}

// accepted calls Accept with the transcript of lines in which the line n from the end (0: the last one) is another one.
func accepted(lines []string, n int, line string) (int, int, api.Errno) {
	l := strings.Split(strings.TrimSuffix(transcriptOf(lines...), "\n"), "\n")
	at := len(l) - 1 - n
	l[at] = line
	wrong, err := vault.Accept(strings.Join(l, "\n") + "\n")
	return at, wrong, err
}

// P10.5 and P10.6: which certificates are accepted behind what was told, and which are not.
func TestCertificates(t *testing.T) {
	none := []string{"", " ", "x", " x x", " 0", " y", " n", " 0 1", " 0 1 0 0 ", " 99999999999999999999"}
	for _, x := range []struct {
		line, out string
		n         int // which line from the end
		word      string
		is, not   []string
	}{
		{"least 0", "2 sharp", 1, "! parted", []string{" 0 1 0 0", " 0 1 0 1", " 0 1 1 0", " 0 1 1 1"}, []string{" 0 1 2 0", " 0 1 2 3", " 0 0 1 1", " 0 0 0 0", " 1 0 0 0", " 0 1 0", " 0 1 0 0 0", "  0 1 0 0", " 0  1 0 0", " 0 1 0 00", " 0 1 0 -1", " 0,1,0,0"}},
		{"least 0", "2 sharp", 0, "! proof", []string{" c0,1", " 0,1,1,2 x c0,1", " 1,0,1,2 x c0,1", " 0,1,2,1 c0,1 x", " 2,3,1,2 c0,1 c0,1", " 0,2,1,2 c0,1 3,1,3,4 c0,1 c0,1", " 0,2,1,2 c1,2 c0,1"}, []string{" c1,0", " c0", " c0,2", " c0,1,2", " c0,1 c0,1", " c", " c0,", " c00,1", " C0,1", "  c0,1", " c0,1 ", " c0, 1", " 0,1,0,0", " 0,0,0,0", " 0,1,1,1 x c0,1", " 0,0,1,2 x c0,1", " 0,1,1,2 c0,1 x", " 0,1,1,2 x", " 0,1,1,2 x c0,1 x", " 0,1,1,3 x x c0,1", " 0,1,2 x c0,1", " 0,1,1,2,0 x c0,1", " 0,4,1,2 c0,1 c0,1", " -1,1,1,2 c0,1 c0,1", " 0,1,+1,2 x c0,1", "c0,1"}},
		{"relate 0 1 2 0", "never", 0, "! proof", []string{" x"}, []string{" c0,1", " 0,1,1,2 x x", " c0", " 0,0,0,0", " 0,1,0,0"}},
		{"relate 0 1 1 0", "surely", 0, "! proof", []string{""}, []string{" x ", " c0"}},
		{"relate 0 3 4 0", "possibly", 1, "! together", []string{" 0 1 0 0", " 0 1 1 1", " 0 1 2 2"}, []string{" 0 1 0 1", " 0 1 2 3", " 0 0 1 1", " 1 0 2 2", " 0 1 3 3", " 0 1 2 2 2", " 0 1 2", "0 1 2 2"}},
		{"relate 0 3 4 0", "possibly", 0, "! separate", []string{" 0 1 0 1", " 0 1 1 0", " 0 1 0 2", " 0 1 2 0", " 0 1 2 1", " 0 1 1 2", " 0 1 2 3"}, []string{" 0 1 0 0", " 0 1 2 2", " 0 0 1 2"}},
		{"relate 0 3 4 2", "possibly", 0, "! separate", []string{" 0 1 0 1", " 0 1 1 0"}, []string{" 0 1 0 2", " 0 1 2 3", " 0 1 0 0"}},
		{"relate 0 3 4 2", "possibly", 1, "! together", []string{" 0 1 0 0", " 0 1 1 1"}, []string{" 0 1 2 2"}},
		// The worlds are 0 1 0 0, 0 1 0 1, 0 1 1 0 and 0 1 1 1.
		{"plan 0 1 3 2 2/3/5 1/4/0", "5", 0, "! tree", []string{" 0:1,2,0,0,0,0,0,0 y n", " 0:2,1,0,0,0,0,0,0 n y", " 0:1,2,3,0,0,0,0,0 y n y", " 0:1,2,3,4,5,6,7,8 y n y n y n y n", " 1:1,2,0,0,0,0,0,0 0:3,4,0,0,0,0,0,0 0:5,6,0,0,0,0,0,0 y n y n"}, []string{" 0:1,2,0,0,0,0,0,0 n y", " 1:1,2,0,0,0,0,0,0 y n", " 0:1,2,0,0,0,0,0 y n", " 0:1,2,0,0,0,0,0,0,0 y n", " 0:1,1,0,0,0,0,0,0 y n", " 0:1,0,0,0,0,0,0,0 y", " 0:1,2,0,0,0,0,0,0 y n n", " 2:1,2,0,0,0,0,0,0 y n", " 00:1,2,0,0,0,0,0,0 y n", " 0:1,02,0,0,0,0,0,0 y n", " -1: y n", " -1:1,2,0,0,0,0,0,0 y n", " 0:1,2,0,0,0,0,0,0  y n", " 0:1,2,0,0,0,0,0,0 Y n", " 0: y n", " 0", " 0:1,2,0,0,0,0,0,0 0:3,4,0,0,0,0,0,0 n y n"}},
		{"plan 0 1 2 2 2/3/5 1/4/0", "0", 0, "! tree", []string{" n", " 1:1,2,0,0,0,0,0,0 n n"}, []string{" y", " 0:1,2,0,0,0,0,0,0 n n", " 1:1,2,0,0,0,0,0,0 n y", "n", " n n", " N"}},
		{"plan 0 1 3 2 1/4/0 2/4/1", "none", 0, "! twins", []string{" 0 2", " 1 3"}, []string{" 2 0", " 0 3", " 1 2", " 0 0", " 0 4", " -1 2", " 00 2", " 0 02", " 0 2 ", "  0 2", " 0,2", " 0 2 3", "0 2", " 0"}},
		{"finds 0", "1 2 3 4", 0, "< 1 2 3 4", []string{""}, []string{" "}},
		{"relate 0 1 9 0", "", 0, "? 4", []string{""}, []string{" ", "\r"}},
	} {
		y := vault.New()
		do(t, y, four()...)
		if x.out != "" {
			prints(t, y, x.line, x.out)
		}
		lines := append(four(), x.line)
		for _, text := range x.is {
			if _, n, err := accepted(lines, x.n, x.word+text); n != 0 || err != api.OK {
				t.Errorf("%s: %s%s: %d %d", x.line, x.word, text, n, err)
			}
		}
		not := slices.Concat(x.not, none)
		not = slices.DeleteFunc(not, func(text string) bool { return slices.Contains(x.is, text) })
		for _, text := range not {
			if at, n, err := accepted(lines, x.n, x.word+text); n != at || err != api.ErrTranscript {
				t.Errorf("%s: %s%s: %d %d, not %d", x.line, x.word, text, n, err, at)
			}
		}
		for _, word := range []string{"", "!", "! ", "! x", "x" + x.word, x.word[1:], " " + x.word, strings.ToUpper(x.word) + "x"} {
			if at, n, err := accepted(lines, x.n, word+x.is[0]); n != at || err != api.ErrTranscript {
				t.Errorf("%s: %s%s: %d %d, not %d", x.line, word, x.is[0], n, err, at)
			}
		}
	}
}

// P10.5: lines that are missing, or too many.
func TestWrongLines(t *testing.T) {
	text := transcriptOf(append(four(), "relate 0 3 4 0", "least 0", "claims 0", "day 1048576", "day 1")...)
	lines := strings.SplitAfter(strings.TrimSuffix(text, "\n"), "\n")
	if n, err := vault.Accept(text); n != 0 || err != api.OK {
		t.Fatal(n, err)
	}
	for i, line := range lines {
		// The text up to a line is a transcript if a command comes then.
		is := strings.HasPrefix(line, "> ")
		n, err := vault.Accept(strings.Join(lines[:i], ""))
		if is && (n != 0 || err != api.OK) || !is && (n != i || err != api.ErrTranscript) {
			t.Error(i, n, err)
		}
		for _, more := range []string{"\n", "x\n", "< 1\n", "? 4\n", "! proof\n", "> \n", "> x\n", "> least 1\n", ">\n", ">day 1\n", " > day 1\n", "# day 1\n", "sendall\n", "day 1\n", "4\n"} {
			if n, err := vault.Accept(strings.Join(slices.Insert(slices.Clone(lines), i, more), "")); n != i || err != api.ErrTranscript {
				t.Error(i, more, n, err)
			}
		}
		if n, err := vault.Accept(strings.Join(slices.Insert(slices.Clone(lines), i, "> begin 1 5 10 20\n"), "")); n != max(i, 1) || err != api.ErrTranscript {
			t.Error(i, n, err)
		}
		// With a line left out the following one is wrong, unless it is as good, or missing.
		rest := slices.Delete(slices.Clone(lines), i, i+1)
		if n, err := vault.Accept(strings.Join(rest, "")); n < i || err != api.ErrTranscript {
			t.Error(i, n, err)
		}
	}
	for _, more := range []string{"x", "\r", " ", "> day 1\n? 1", "> x"} {
		if n, err := vault.Accept(text + more); n < len(lines) || err != api.ErrTranscript {
			t.Error(more, n, err)
		}
	}
}

// P10.5: a last line without a line feed.
func TestLooseLines(t *testing.T) {
	for i, x := range []struct {
		text string
		n    int
		err  api.Errno
	}{
		{"", 0, api.OK}, {"\n", 0, api.ErrTranscript}, {"\n\n", 0, api.ErrTranscript}, {">", 0, api.ErrTranscript}, {"> ", 0, api.ErrTranscript},
		{"> begin 1 5 10 20\n", 0, api.OK}, {"> begin 1 5 10 20", 1, api.ErrTranscript}, {"> begin 1 5 10 2", 1, api.ErrTranscript}, {"> begin 1 5 10", 0, api.ErrTranscript}, {"> begin 1 5 10 20\n\n", 1, api.ErrTranscript}, {"\n> begin 1 5 10 20\n", 0, api.ErrTranscript},
		{"> begin 1 5 10 20\n> day 3\n< 3\n", 0, api.OK}, {"> begin 1 5 10 20\n> day 3\n< 3", 3, api.ErrTranscript}, {"> begin 1 5 10 20\n> day 3\n<", 2, api.ErrTranscript}, {"> begin 1 5 10 20\n> day 3\n", 2, api.ErrTranscript}, {"> begin 1 5 10 20\n> day 3", 2, api.ErrTranscript}, {"> begin 1 5 10 20\n> day ", 1, api.ErrTranscript}, {"> begin 1 5 10 20\n> day 33\n< 3", 2, api.ErrTranscript},
		{"> begin 1 5 10 20\n> finds 0\n> least 0\n? 4\n", 0, api.OK}, {"> begin 1 5 10 20\n> finds 0\n<\n", 2, api.ErrTranscript}, {"> begin 1 5 10 20\n> finds 0\n< \n", 2, api.ErrTranscript}, {"> day 1\n? 101\n", 0, api.ErrTranscript}, {"> begin 1 5 10 20\n> begin 1 5 10 20\n? 101\n", 1, api.ErrTranscript}, {"> begin 1 5 10 20\n> x\n? 100\n", 1, api.ErrTranscript},
		{"> begin 1 5 10 20\n> day 3\n3\n", 2, api.ErrTranscript}, {"> begin 1 5 10 20\n> least 0\n4\n", 2, api.ErrTranscript}, {"begin 1 5 10 20\n", 0, api.ErrTranscript},
		{"> begin 1 5 10 20\r\n", 0, api.ErrTranscript},
	} {
		if n, err := vault.Accept(x.text); n != x.n || err != x.err {
			t.Errorf("%d: %q: %d %d", i, x.text, n, err)
		}
		if len(x.text) > 0 || x.err != api.OK {
			accepts(t, x.text)
		}
	}
}

// P10.5: how long a text can be.
func TestAcceptLimits(t *testing.T) {
	const begin = "> begin 2 5 10 20\n"
	days := begin + strings.Repeat("> sendall\n< 0\n", 999)
	for i, x := range []struct {
		text string
		n    int
		err  api.Errno
	}{
		{days, 0, api.OK}, {days + "> crash 0 1\n", 0, api.OK}, {days + "> crash 0 1", 2000, api.ErrTranscript}, {days + "> sendall\n< 0\n", 0, api.ErrLimit}, {days + "> sendall\n<", 0, api.ErrLimit}, {days + "> sendall\n\n", 0, api.ErrLimit}, {days + "> sendall\n", 2000, api.ErrTranscript},
		{strings.Repeat("\n", 2000), 0, api.ErrTranscript}, {strings.Repeat("\n", 2001), 0, api.ErrLimit}, {strings.Repeat("\n", 2000) + "x", 0, api.ErrLimit}, {strings.Repeat("\n", 1999) + "x", 0, api.ErrTranscript},
		{strings.Repeat("x", 65536), 0, api.ErrTranscript}, {strings.Repeat("x", 65537), 0, api.ErrLimit}, {begin + long(65536-len(begin)), 0, api.OK}, {begin + long(65536-len(begin)) + "x", 0, api.ErrLimit}, {begin + long(65536-len(begin)) + "\n", 0, api.ErrLimit}, {strings.Repeat("\n", 70000), 0, api.ErrLimit},
	} {
		if n, err := vault.Accept(x.text); n != x.n || err != x.err {
			t.Error(i, n, err)
		}
	}
}

// long returns the part of a transcript that has so many bytes.
func long(size int) string {
	const line, out = "> send 0 1 ", "\n< 0\n"
	return line + strings.Repeat("1", size-len(line)-len(out)) + out
}

// P10.4: what a transcript has for each command, also for those that fail, and nothing for those that are not possible.
func TestTranscriptText(t *testing.T) {
	want := `> begin 2 5 10 20
> write 0 enter find 1 12 1 0-1 20-30 1 0 1 1
< 0.0
> least 0
< 1 sharp
! parted 0
! proof c0
> day 1048577
> relate 0 1 1 0
< surely
! proof
> plan 0 1 1 0 1/1/3
< 0
! tree y
> relate 0 1 7 0
? 4
> finds 1
> finds 0
< 1
> write 0 claim 1 2
< 0.1
> write 0 claim 3 4
< 0.2
> write 1 keep
< 1.0
> day 9
< 9
> write 0 keep
< 0.3
> write 1 keep
< 1.1
> sendall
< 6
> claims 1
< 1 3 5
< 2 3 5
> rulings 1
< 1 5 1 2
< 2 5 3 4
> crash 0 1
> write 0 keep
? 91
> open 0 0
`
	want = strings.Replace(want, "> day 1048577\n", "", 1)
	y := vault.New()
	y.Do("day 1")
	for _, line := range commandsOf(want) {
		y.Do(line)
		y.Do("begin 2 5 10 20")
		y.Do("day 1048577")
		y.Do("send 1 1 1")
	}
	if text := y.Transcript(); text != want {
		t.Error(text)
	}
	if n, err := vault.Accept(want); n != 0 || err != api.OK {
		t.Error(n, err)
	}
}
