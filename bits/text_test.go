package bits_test

import (
	"slices"
	"strings"
	"testing"

	"bonehouse/api"
	"bonehouse/bits"
)

// P1.6: texts and their sets.
func TestTexts(t *testing.T) {
	for _, x := range []struct {
		text string
		s    api.Set
	}{
		{"-", api.Set{}},
		{"0,3-5,9-10", of(t, 0, 3, 4, 5, 9, 10)},
		{"0-1", of(t, 0, 1)},
		{"0", of(t, 0)},
		{"255", of(t, 255)},
		{"254-255", of(t, 254, 255)},
		{"0,255", of(t, 255, 0)},
		{"1,3", of(t, 3, 1)},
		{"9-10,99-100", of(t, 9, 10, 99, 100)},
		{"63-64,127-128,191-192", of(t, 63, 64, 127, 128, 191, 192)},
		{"0-255", full()},
		{"0-62,64-255", bits.Without(full(), 63)},
	} {
		if text := bits.Print(x.s); text != x.text {
			t.Error(x.text, text)
		}
		if s, err := bits.Parse(x.text); s != x.s || err != api.OK {
			t.Error(x.text, s, err)
		}
	}
}

// P1.6: what is the text of no set.
func TestNoTexts(t *testing.T) {
	for _, text := range []string{
		"", " ", ",", "--", "---", "-,", ",-", "-,1", "1,-", "-1", "1-", "-0", "- ", "-\n",
		"0,1", "0-1,2", "0,1-2", "0-2,3-5", "3,2", "5-6,1-2", "1,1", "1-3,2", "1-3,2-4", "0-5,3", "1-1", "0-0", "5-3",
		"01", "00", "1-02", "01-2", "+1", "1-+2", "1_0", "0x1", "1e1", "1.0",
		"256", "0-256", "255-256", "256-257", "1,", ",1", "1,,3", "1--2", "1-2-3", "1-2-", "-1-2",
		" 1", "1 ", "1, 3", "1 ,3", "1 - 2", "1;3", "1\n", "1,3\n", "\x001", "a", "1,b", "\u0661", "\xff",
		"99999999999999999999999", "0-99999999999999999999999", "9223372036854775808", "-9223372036854775808",
		strings.Repeat("9", 100000), strings.Repeat("0,", 100000), strings.Repeat("-", 100000), strings.Repeat(",", 100000),
	} {
		if s, err := bits.Parse(text); s != (api.Set{}) || err != api.ErrParse {
			t.Error(text, s, err)
		}
	}
}

// P1.6: Print and Parse undo each other, and the runs are those of the members.
func TestTextsAreInverse(t *testing.T) {
	l := sets(t)
	for a := range uint64(1 << 9) {
		l = append(l, api.Set{a}, api.Set{a << 60, a >> 4}, api.Set{0, 0, 0, a << 55})
	}
	for _, s := range l {
		text := bits.Print(s)
		if r, err := bits.Parse(text); r != s || err != api.OK {
			t.Fatal(s, text, r, err)
		}
		starts := 0
		for n := range bits.All(s) {
			if !bits.Has(s, n-1) {
				starts++
			}
		}
		if s != (api.Set{}) && strings.Count(text, ",")+1 != starts {
			t.Fatal(s, text)
		}
	}
}

// P1.6: each short text is that of the set that Parse returns, or of none.
func TestShortTexts(t *testing.T) {
	l := []string{""}
	sound := 0
	for range 6 {
		var longer []string
		for _, text := range l {
			for _, c := range []string{"0", "1", "2", ",", "-"} {
				longer = append(longer, text+c)
			}
		}
		for _, text := range longer {
			s, err := bits.Parse(text)
			if err == api.OK {
				sound++
			}
			if (err == api.OK) != (bits.Print(s) == text) || err != api.OK && (err != api.ErrParse || s != api.Set{}) {
				t.Fatal(text, s, err)
			}
		}
		l = longer
	}
	if sound < 100 || slices.Contains(l, "") {
		t.Error(sound)
	}
}
