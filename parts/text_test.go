package parts_test

import (
	"slices"
	"strconv"
	"strings"
	"testing"

	"bonehouse/api"
	"bonehouse/parts"
)

// text returns the elements of a list, with a blank between any two.
func text(l []int) string {
	s := ""
	for i, n := range l {
		if i > 0 {
			s += " "
		}
		s += strconv.Itoa(n)
	}
	return s
}

// P6.1: Print and Parse undo each other, for all partitions of few nodes and for some of many.
func TestTexts(t *testing.T) {
	x := noise(2)
	var l [][]int
	for nodes := 1; nodes <= 7; nodes++ {
		l = append(l, partitions(nodes)...)
	}
	for range 300 {
		l = append(l, aPartition(&x, x.from(8, 32), x.from(1, 32)))
	}
	for _, p := range append(l, upTo(32), make([]int, 32), append(upTo(31), 10)) {
		kept := slices.Clone(p)
		s, err := parts.Print(p)
		if s != text(p) || err != api.OK || !slices.Equal(p, kept) {
			t.Fatal(p, s, err)
		}
		if q, err := parts.Parse(s); !slices.Equal(p, q) || err != api.OK {
			t.Fatal(s, q, err)
		}
	}
}

// P6.1: what is no partition in its normal form has no text.
func TestPrintErrors(t *testing.T) {
	lists([]int{-1, 0, 1, 2, 3}, 4, func(l []int) {
		if s, err := parts.Print(l); !isNormal(l) && (s != "" || err != api.ErrParts) {
			t.Fatal(l, s, err)
		}
	})
	for _, l := range [][]int{nil, make([]int, 33), upTo(33), {0, 10}} {
		if s, err := parts.Print(l); s != "" || err != api.ErrParts {
			t.Error(l, s, err)
		}
	}
}

// P6.1: Parse accepts the texts of partitions alone: all short texts of some signs.
func TestShortTexts(t *testing.T) {
	texts := map[string][]int{}
	for nodes := 1; nodes <= 4; nodes++ {
		for _, l := range partitions(nodes) {
			texts[text(l)] = l
		}
	}
	signs := []byte{'0', '1', '2', ' ', '-', '+', '.', '\n'}
	accepted := 0
	lists([]int{0, 1, 2, 3, 4, 5, 6, 7}, 6, func(l []int) {
		s := ""
		for _, i := range l {
			s += string(signs[i])
		}
		want, is := texts[s]
		got, err := parts.Parse(s)
		if is != (err == api.OK) || !is && err != api.ErrParse || !slices.Equal(got, want) {
			t.Fatalf("%q %v %v", s, got, err)
		}
		if is {
			accepted++
		}
	})
	if accepted != 1+2+5 {
		t.Error(accepted)
	}
}

// P6.1: texts that are almost those of partitions.
func TestParseErrors(t *testing.T) {
	long := text(upTo(32))
	for _, s := range []string{
		"", " ", "0 ", " 0", "0  1", "0\t1", "0\n", "0\n1", "0 1\n", "0,1", "0-1", "00", "0 00", "0 01", "-0", "0 -0", "+0", "0 +1", "0 -1", "1", "0 2", "0 1 3", "0 x", "x", "0x0", "0 0x1", "0 1_0", "0 1.", "0 1e0", "0 ١", "0\u00a01", "0 1\x00",
		"0 18446744073709551616", "0 18446744073709551617", "0 -18446744073709551615", "0 9223372036854775808", "18446744073709551616", "0 0 99999999999999999999999",
		long + " 0", long + " 32", long + " ", long + " x", long + " 0 0", long + "0", strings.Repeat("0 ", 32) + "0", strings.Repeat("0 ", 1000) + "0", strings.Repeat(" ", 40), strings.Repeat("0 ", 32),
		strings.Replace(long, " 10 ", " 010 ", 1), strings.Replace(long, " 10 ", " 11 ", 1), strings.Replace(long, " 10 ", " ", 1), strings.Replace(long, " 10 ", "  10 ", 1),
	} {
		if l, err := parts.Parse(s); len(l) > 0 || err != api.ErrParse {
			t.Errorf("%q %v %v", s, l, err)
		}
	}
	for s, want := range map[string][]int{"0": {0}, "0 1 0 2": {0, 1, 0, 2}, long: upTo(32), long[:len(long)-3]: upTo(31), strings.Repeat("0 ", 31) + "0": make([]int, 32)} {
		if l, err := parts.Parse(s); !slices.Equal(l, want) || err != api.OK {
			t.Errorf("%q %v %v", s, l, err)
		}
	}
}
