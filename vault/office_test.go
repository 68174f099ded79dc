package vault_test

import (
	"fmt"
	"slices"
	"strings"
	"testing"

	"bonehouse/api"
	"bonehouse/vault"
)

// both is a model, and one by the chapter's words.
type both struct {
	*vault.Model
	paper *paper
}

// newBoth returns new ones, in which these lines were done.
func newBoth(t *testing.T, l ...string) both {
	t.Helper()
	y := both{vault.New(), &paper{}}
	for _, line := range l {
		y.hold(t, line)
	}
	return y
}

// hold does a line with both, which have to do the same, and returns what that is.
func (y both) hold(t *testing.T, line string) (string, api.Errno) {
	t.Helper()
	out, err := y.Do(line)
	if want, fault := y.paper.do(line); out != want || err != fault {
		t.Fatalf("%s: %q %d, not %q %d", line, out, err, want, fault)
	}
	return out, err
}

// P10.2: when commands are possible.
func TestPossible(t *testing.T) {
	y := vault.New()
	for _, line := range commands() {
		if !strings.HasPrefix(line, "begin") {
			fails(t, y, line, api.ErrNotNow)
		}
	}
	for _, line := range []string{"begin", "begin 9 1 1 1", "day 0", "sendall 1"} {
		fails(t, y, line, api.ErrCommand)
	}
	if y.Day() != 0 || y.Offices() != 0 || y.Transcript() != "" {
		t.Error(y.Day(), y.Offices(), y.Transcript())
	}
	prints(t, y, "begin 3 5 10 20", "")
	for _, line := range []string{
		"begin 3 5 10 20", "begin 1 1 1 1", "send 0 0 1", "talk 2 2", "send 0 3 1", "send 3 0 1", "talk 3 0", "talk 0 7", "write 3 keep", "crash 3 1", "open 3 0", "compact 3", "refused 3", "finds 4", "strength 5", "least 6", "repeat 7", "relate 3 1 2 0", "plan 3 1 2 0 1/2/3", "claims 3", "rulings 3", "buried 3", "agree 0 3", "agree 3 0", "agree 3 3",
	} {
		fails(t, y, line, api.ErrNotNow)
	}
	prints(t, y, "agree 2 2", "yes")
	// The power of the office 1 goes off: all but open needs its book.
	do(t, y, "crash 1 1")
	fails(t, y, "write 1 keep", api.ErrDown)
	for _, line := range []string{
		"send 0 1 1", "send 1 0 1", "talk 0 1", "talk 1 0", "write 1 keep", "crash 1 1", "compact 1", "refused 1", "finds 1", "strength 1", "least 1", "repeat 1", "relate 1 1 2 0", "plan 1 1 2 0 1/2/3", "claims 1", "rulings 1", "buried 1", "agree 0 1", "agree 1 0", "agree 1 1",
	} {
		fails(t, y, line, api.ErrNotNow)
	}
	prints(t, y, "write 0 keep", "0.0")
	prints(t, y, "sendall", "1")
	prints(t, y, "day 3", "3")
	prints(t, y, "open 1 0", "")
	prints(t, y, "refused 1", "0")
	prints(t, y, "open 1 0", "") // it can be open already
	prints(t, y, "sendall", "1")
	if y.Day() != 3 || y.Offices() != 3 {
		t.Error(y.Day(), y.Offices())
	}
}

// P10.2: days.
func TestDay(t *testing.T) {
	y := vault.New()
	prints(t, y, "begin 8 1 1 1", "")
	prints(t, y, "day 1048575", "1048575")
	fails(t, y, "day 2", api.ErrArg)
	fails(t, y, "day 1048576", api.ErrArg)
	prints(t, y, "day 1", "1048576")
	fails(t, y, "day 1", api.ErrArg)
	if y.Day() != api.MaxDay || y.Offices() != 8 {
		t.Error(y.Day(), y.Offices())
	}
	// The last day is one on which all can be done.
	prints(t, y, "write 7 rule 1 1048576 apart 1 1 a.no = 1", "7.0")
	prints(t, y, "write 7 enter find 4095 31 3 0 0-120 0 0 0 0", "7.1")
	prints(t, y, "write 7 claim 1 1", "7.2")
	prints(t, y, "refused 7", "0")
}

// P10.2: what is written, and how much.
func TestWrite(t *testing.T) {
	y := newBoth(t, "begin 2 5 10 20")
	for n := range 64 {
		form := []string{"keep", "claim 5 6", same12}[n%3]
		if out, _ := y.hold(t, "write 1 "+form); out != fmt.Sprint("1.", n) {
			t.Error(n, out)
		}
	}
	before := answers(y.Model, 1)
	// The court's error comes first.
	for _, form := range []string{"keep", "claim 1 1", "object 511 1", "bury 0"} {
		fails(t, y.Model, "write 1 "+form, api.ErrLimit)
	}
	for _, form := range []string{same12, "gone 5 7", "split 9", "tie 2048 1 2 apart 1 1", "untie 2048", "enter find 1 12 1 0-1 20-30 1 0 1 1"} {
		fails(t, y.Model, "write 1 "+form, api.ErrEntry)
	}
	if !alike(answers(y.Model, 1), before) {
		t.Error(answers(y.Model, 1), before)
	}
	prints(t, y.Model, "write 0 keep", "0.0")
	prints(t, y.Model, "send 1 0 1", "64")
	prints(t, y.Model, "write 0 keep", "0.1")
}

// P10.2: what the court says of messages that cannot be written.
func TestWriteMessages(t *testing.T) {
	y := vault.New()
	do(t, y, "begin 2 5 10 20", "write 0 claim 7 100", "write 0 lease 7 3")
	for _, x := range []struct {
		line string
		err  api.Errno
	}{
		{"write 1 object 0 200", api.ErrNone}, {"write 0 object 1 200", api.ErrNone}, {"write 0 sample 511 1 1", api.ErrNone}, {"write 0 drop 64 1", api.ErrNone}, {"write 0 give 0", api.ErrNone}, {"write 0 bury 2", api.ErrNone}, {"write 0 bury 1", api.ErrLease},
	} {
		fails(t, y, x.line, x.err)
	}
	prints(t, y, "write 0 object 0 200", "0.2")
	prints(t, y, "send 0 1 1", "3")
	fails(t, y, "write 1 give 1", api.ErrLease)
	do(t, y, "day 6")
	fails(t, y, "write 1 object 0 300", api.ErrLate)
	prints(t, y, "write 1 sample 0 200 1", "1.0")
	fails(t, y, "write 0 bury 1", api.ErrLease)
	// The day of the lease is closed for the office 0 once it has heard of a later day of the office 1.
	do(t, y, "write 0 keep", "send 1 0 1")
	prints(t, y, "write 0 bury 1", "0.4")
}

// P10.2: what the network does to what is sent.
func TestSend(t *testing.T) {
	for i, x := range []struct {
		pattern string
		want    int // of six entries
	}{
		{"0", 0}, {"1", 6}, {"2", 6}, {"3", 6}, {"01", 0}, {"10", 1}, {"110", 2}, {"3120", 3}, {"1111101", 5}, {"0111111", 0}, {"1111110", 6}, {"22222203", 6}, {"33333", 6}, {"1230", 3},
	} {
		y := newBoth(t, "begin 2 1 1 1")
		for range 6 {
			y.hold(t, "write 0 keep")
		}
		if out, err := y.hold(t, "send 0 1 "+x.pattern); out != fmt.Sprint(x.want) || err != api.OK {
			t.Error(i, out, err)
		}
		if l, err := y.Tally(1); !slices.Equal(l.Have, []int{x.want, 0}) || err != api.OK {
			t.Error(i, l, err)
		}
		if out, _ := y.hold(t, "send 0 1 1"); out != fmt.Sprint(6-x.want) {
			t.Error(i, out)
		}
		if out, _ := y.hold(t, "send 0 1 1"); out != "0" {
			t.Error(i, out)
		}
	}
	// Several offices: the pattern goes on from one to the next.
	y := newBoth(t, "begin 3 1 1 1", "write 0 keep", "write 0 keep", "write 1 keep", "write 1 keep", "write 1 keep", "write 2 keep")
	y.hold(t, "send 1 0 1")
	if out, _ := y.hold(t, "send 0 2 10101"); out != "2" { // 0.0, not 0.1; 1.0, not 1.1
		t.Error(out)
	}
	if l, _ := y.Tally(2); !slices.Equal(l.Have, []int{1, 1, 1}) {
		t.Error(l)
	}
	// What one wants of what another one has is all of an office of which it has something else than a beginning: the last entry of it.
	if out, _ := y.hold(t, "send 2 0 1"); out != "1" {
		t.Error(out)
	}
}

// P10.2: dialogues.
func TestTalk(t *testing.T) {
	y := newBoth(t, "begin 3 1 1 1", "write 0 keep", "write 0 keep", "write 0 keep", "write 1 keep", "write 2 keep", "write 2 keep")
	for _, x := range [][2]string{{"talk 0 1", "1 3"}, {"talk 0 1", "0 0"}, {"talk 1 2", "2 4"}, {"talk 2 1", "0 0"}, {"talk 2 0", "0 2"}, {"sendall", "0"}} {
		if out, err := y.hold(t, x[0]); out != x[1] || err != api.OK {
			t.Error(x, out, err)
		}
	}
}

// P10.2: all send all.
func TestSendAll(t *testing.T) {
	y := newBoth(t, "begin 4 1 1 1", "sendall", "write 0 keep", "write 3 keep", "write 3 keep", "crash 2 2")
	// The first error ends it: the office 2 is the third one to be sent something.
	if out, err := y.hold(t, "sendall"); out != "" || err != api.ErrDown {
		t.Error(out, err)
	}
	if l, err := y.Tally(1); !slices.Equal(l.Have, []int{1, 0, 0, 0}) || err != api.OK {
		t.Error(l, err)
	}
	if l, err := y.Tally(3); !slices.Equal(l.Have, []int{0, 0, 0, 2}) || err != api.OK {
		t.Error(l, err)
	}
	for _, x := range [][2]string{{"sendall", "5"}, {"open 2 0", ""}, {"sendall", "3"}, {"sendall", "0"}} {
		if out, err := y.hold(t, x[0]); out != x[1] || err != api.OK {
			t.Error(x, out, err)
		}
	}
	one := newBoth(t, "begin 1 1 1 1", "write 0 keep")
	if out, _ := one.hold(t, "sendall"); out != "0" {
		t.Error(out)
	}
}

// P10.2: the power goes off at each call of a write, and what survives.
func TestCrash(t *testing.T) {
	for calls := 1; calls <= 7; calls++ {
		for _, keep := range []string{"0", "9", "99", "999", "1", "01", "91", "98", "8", "9990", "5", "7", "97", "009"} {
			y := newBoth(t, "begin 2 1 1 1", "write 0 keep", fmt.Sprint("crash 0 ", calls))
			_, err := y.hold(t, "write 0 "+same12) // five calls: the second sector, the one behind it, a sync, the first sector, a sync
			if (err == api.ErrDown) != (calls <= 5) {
				t.Error(calls, err)
			}
			y.hold(t, "open 0 "+keep)
			holdKnown(t, y.Model, y.paper)
			l, _ := y.Tally(0)
			if err == api.OK && l.Have[0] != 2 || calls < 4 && l.Have[0] != 1 {
				t.Error(calls, keep, l)
			}
			y.hold(t, "write 0 keep")
			y.hold(t, "compact 0")
		}
	}
	// An Arm does not count any more behind Restart, nor a former one behind another one.
	y := newBoth(t, "begin 1 1 1 1", "crash 0 1", "open 0 0", "write 0 keep", "crash 0 1", "crash 0 1000", "write 0 keep", "crash 0 3", "write 0 keep")
	if l, err := y.Tally(0); err != api.ErrNotNow {
		t.Error(l, err)
	}
}

// P10.2: books that are full, and how they are compacted.
func TestFull(t *testing.T) {
	t.Parallel()
	y := newBoth(t, "begin 3 1 1 1", "compact 0")
	long := "write %d rule %d 0 apart 1 1 " + longText(32)
	var err api.Errno
	n := 0
	for ; err == api.OK; n++ {
		_, err = y.hold(t, fmt.Sprintf(long, 0, n))
	}
	if err != api.ErrFull || n < 10 || n > 60 {
		t.Error(n, err)
	}
	// What is shorter still fits in.
	if _, err := y.hold(t, "write 0 keep"); err != api.OK {
		t.Error(err)
	}
	for n := range 3 {
		y.hold(t, fmt.Sprintf(long, 1, n))
	}
	for _, line := range []string{"send 1 0 1", "talk 1 0", "talk 0 1", "sendall", "talk 2 0", "talk 2 1", "compact 0", "compact 1", "agree 1 2", "sendall"} {
		out, err := y.hold(t, line)
		if isSent := strings.HasPrefix(line, "send") || strings.HasPrefix(line, "talk"); isSent && line[:6] != "talk 2" && (out != "" || err != api.ErrFull) {
			t.Error(line, out, err)
		}
		holdKnown(t, y.Model, y.paper)
	}
}

// P10.2: a book has room for 511 entries of a sector each.
func TestRoom(t *testing.T) {
	y := vault.New()
	do(t, y, "begin 8 1 1 1")
	for p := range 8 {
		for range 64 {
			do(t, y, fmt.Sprintf("write %d keep", p))
		}
	}
	for p := 1; p < 7; p++ {
		prints(t, y, fmt.Sprintf("send %d 0 1", p), "64")
	}
	fails(t, y, "send 7 0 1", api.ErrFull)
	if l, err := y.Tally(0); !slices.Equal(l.Have, []int{64, 64, 64, 64, 64, 64, 64, 63}) || err != api.OK {
		t.Error(l, err)
	}
	prints(t, y, "compact 0", "0")
	fails(t, y, "sendall", api.ErrFull)
	prints(t, y, "refused 0", "0")
	prints(t, y, "agree 0 7", "no")
}

// P10.2: compacting frees nothing here, as no entry is ever replaced, and changes nothing, also through outages.
func TestCompact(t *testing.T) {
	y := newBoth(t, "begin 2 1 1 1", "write 0 keep", "crash 0 3")
	y.hold(t, "write 0 "+same12)
	for _, line := range []string{"open 0 9", "compact 0", "compact 0", "write 0 keep", "crash 0 2", "compact 0", "open 0 9", "refused 0", "compact 0", "agree 0 0"} {
		if out, err := y.hold(t, line); line == "compact 0" && (out != "0" || err != api.OK) && err != api.ErrDown {
			t.Error(line, out, err)
		}
	}
}
