package court_test

import (
	"math"
	"strconv"
	"strings"
	"testing"

	"bonehouse/api"
	"bonehouse/court"
)

// shape is a kind of messages by the chapter's table: its word, and the most that each further field can be; -1 if it does not have it.
type shape struct {
	kind                              int
	word                              string
	claim, find, family, grave, value int
}

// shapes returns all kinds.
func shapes() []shape {
	return []shape{
		{api.KeepM, "keep", -1, -1, -1, -1, -1},
		{api.ClaimM, "claim", -1, 4095, 4095, -1, -1},
		{api.ObjectM, "object", 511, -1, 4095, -1, -1},
		{api.SampleM, "sample", 511, -1, 4095, -1, 100},
		{api.DropM, "drop", 511, -1, 4095, -1, -1},
		{api.LeaseM, "lease", -1, 4095, -1, 4095, -1},
		{api.GiveM, "give", 511, -1, -1, -1, -1},
		{api.BuryM, "bury", 511, -1, -1, -1, -1},
	}
}

// place is a field of a message, and the most that it can be; -1 if the kind of the message does not have it.
type place struct {
	at   *int
	most int
}

// places returns the fields of a message that its kind is about, in the order of a text.
func (s shape) places(m *api.Message) []place {
	return []place{{&m.Claim, s.claim}, {&m.Find, s.find}, {&m.Family, s.family}, {&m.Grave, s.grave}, {&m.Value, s.value}}
}

// numbered returns the fields that all messages have.
func numbered(m *api.Message) []place {
	return []place{{&m.From, 7}, {&m.No, 63}, {&m.Day, 1048576}}
}

// textOf returns the text of a message of a kind.
func (s shape) textOf(m api.Message) string {
	words := []string{strconv.Itoa(m.From), strconv.Itoa(m.No), strconv.Itoa(m.Day), s.word}
	for _, p := range s.places(&m) {
		if p.most >= 0 {
			words = append(words, strconv.Itoa(*p.at))
		}
	}
	return strings.Join(words, " ")
}

// someValid returns valid messages of a kind: such whose fields are all least or all most, and such of which one alone is another number.
func (s shape) someValid() []api.Message {
	least, most := api.Message{Kind: s.kind}, api.Message{Kind: s.kind}
	for _, p := range append(numbered(&most), s.places(&most)...) {
		*p.at = max(0, p.most)
	}
	l := []api.Message{least, most}
	for _, m := range []api.Message{least, most} {
		for i := range 8 {
			x := m
			p := append(numbered(&x), s.places(&x)...)[i]
			for _, n := range []int{1, 2, 9, 10, 63, 100, p.most - 1} {
				if n >= 0 && n <= p.most {
					*p.at = n
					l = append(l, x)
				}
			}
		}
	}
	return l
}

// someWrong returns messages that are not valid by one field.
func (s shape) someWrong() []api.Message {
	var l []api.Message
	for _, m := range s.someValid() {
		for i := range 8 {
			x := m
			p := append(numbered(&x), s.places(&x)...)[i]
			for _, n := range []int{-1, max(0, p.most) + 1, max(0, p.most) + 2, -64, 1 << 20, math.MinInt, math.MaxInt} {
				if n < 0 || n > p.most {
					*p.at = n
					l = append(l, x)
				}
			}
		}
		for _, kind := range []int{0, 9, -1, 10, 64, math.MinInt, math.MaxInt} {
			x := m
			x.Kind = kind
			l = append(l, x)
		}
	}
	return l
}

// isWrong fails unless a message is told not to be valid.
func isWrong(t *testing.T, m api.Message) {
	t.Helper()
	n, err := court.Number(m)
	text, fault := court.Print(m)
	if court.CheckMessage(m) != api.ErrMessage || n != 0 || err != api.ErrMessage || text != "" || fault != api.ErrMessage {
		t.Error(m, court.CheckMessage(m), n, err, text, fault)
	}
}

// P8.1: what is valid, with its number and its text, of each kind; the text is that of this message.
func TestValidMessages(t *testing.T) {
	for _, s := range shapes() {
		for _, m := range s.someValid() {
			if err := court.CheckMessage(m); err != api.OK {
				t.Error(m, err)
			}
			if n, err := court.Number(m); n != 64*m.From+m.No || err != api.OK {
				t.Error(m, n, err)
			}
			if text, err := court.Print(m); text != s.textOf(m) || err != api.OK {
				t.Error(m, text, err)
			}
			if x, err := court.Parse(s.textOf(m)); x != m || err != api.OK {
				t.Error(m, x, err)
			}
		}
	}
}

// P8.1: what is not valid: a field beyond its range, one that the kind does not have, another kind.
func TestWrongMessages(t *testing.T) {
	isWrong(t, api.Message{})
	for _, s := range shapes() {
		for _, m := range s.someWrong() {
			isWrong(t, m)
		}
	}
}

// P8.1: texts of wrong messages are none.
func TestTextsOfWrongMessages(t *testing.T) {
	for _, s := range shapes() {
		for _, m := range s.someWrong() {
			if m.Kind != s.kind {
				continue
			}
			is := true // whether the text names what is wrong
			for _, p := range s.places(&m) {
				is = is && (p.most >= 0 || *p.at == 0)
			}
			if x, err := court.Parse(s.textOf(m)); is && (x != api.Message{} || err != api.ErrParse) {
				t.Error(s.textOf(m), x, err)
			}
		}
	}
}

// P8.1: the chapter's example, and texts that are near to one.
func TestTexts(t *testing.T) {
	const text = "0 3 17 object 65 9"
	if m := parse(t, text); m != (api.Message{No: 3, Day: 17, Kind: api.ObjectM, Claim: 65, Family: 9}) {
		t.Error(m)
	}
	for _, s := range []string{
		"", " ", "0", "0 3 17", "0 3 17 ", "0 3 17 object", "0 3 17 object 65", "0 3 17 object 65 ", "0 3 17 object 65 9 ", " 0 3 17 object 65 9", "0 3 17 object 65 9 0", "0 3 17 object 65 9 1 2 3 4 5",
		"0  3 17 object 65 9", "0 3 17  object 65 9", "0 3 17 object  65 9", "0 3 17 object 65  9", "0 3 17 object 65 9\n", "\n0 3 17 object 65 9", "0\t3 17 object 65 9", "0,3,17,object,65,9",
		"00 3 17 object 65 9", "0 03 17 object 65 9", "0 3 017 object 65 9", "0 3 17 object 065 9", "0 3 17 object 65 09", "-0 3 17 object 65 9", "+0 3 17 object 65 9", "0 3 17 object +65 9", "0 3 17 object 65 -9", "0 3 17 object 65 -0",
		"0 3 17 Object 65 9", "0 3 17 objects 65 9", "0 3 17 objec 65 9", "0 3 17 3 65 9", "0 3 17 OBJECT 65 9", "object 0 3 17 65 9", "0 3 object 17 65 9", "x 3 17 object 65 9", "0 3 17 object x 9", "0 3 17 object 65 x", "0 3 17 object 65 0x9", "0 3 17 object 6_5 9", "0 3 17 object 65 9.0", "0 3 17 object 65 1e1",
		"8 3 17 object 65 9", "0 64 17 object 65 9", "0 3 1048577 object 65 9", "0 3 17 object 512 9", "0 3 17 object 65 4096", "0 3 17 object 65 18446744073709551616", "0 3 17 object 65 18446744073709551625", "0 3 17 object 65 9223372036854775808",
		"0 3 17 keep 0", "0 3 17 keep ", "0 3 17 ", "0 3 17  0", "0 3 17 claim 5", "0 3 17 claim 0 5 6", "0 3 17 sample 1 2", "0 3 17 sample 1 2 101", "0 3 17 sample 1 0 2 0 3", "0 3 17 give", "0 3 17 give 1 0", "0 3 17 bury 1 0", "0 3 17 lease 1 0 2", "0 3 17 dig", "0 3 17 \xff",
	} {
		if m, err := court.Parse(s); m != (api.Message{}) || err != api.ErrParse {
			t.Errorf("%q %v %v", s, m, err)
		}
	}
}

// P8.1: Print and Parse are inverse to each other, for all texts that changes of a byte or two make of others.
func TestInverse(t *testing.T) {
	const bytes = "0123456789 -+abcdeijklmoprstuvy\n"
	x := noise(1)
	seen := 0
	for _, s := range shapes() {
		for _, m := range s.someValid() {
			for range 60 {
				text := []byte(s.textOf(m))
				for range x.from(1, 2) {
					i := x.below(len(text))
					switch x.below(3) {
					case 0:
						text[i] = bytes[x.below(len(bytes))]
					case 1:
						text = append(text[:i], text[i+1:]...)
					case 2:
						text = append(text[:i], append([]byte{bytes[x.below(len(bytes))]}, text[i:]...)...)
					}
				}
				got, err := court.Parse(string(text))
				if err != api.OK {
					if got != (api.Message{}) || err != api.ErrParse {
						t.Fatalf("%q %v %v", text, got, err)
					}
					continue
				}
				seen++
				if back, fault := court.Print(got); back != string(text) || fault != api.OK {
					t.Fatalf("%q %v %q %v", text, got, back, fault)
				}
			}
		}
	}
	if seen < 1000 {
		t.Error(seen)
	}
}

// P8.1: long texts of many words are none.
func TestLongTexts(t *testing.T) {
	for _, s := range []string{strings.Repeat(" ", 1<<20), strings.Repeat("0 ", 1<<20), "0 0 0 keep" + strings.Repeat(" 0", 1<<20), strings.Repeat("9", 1<<20) + " 0 0 keep", "0 0 0 " + strings.Repeat("keep", 1<<18)} {
		if m, err := court.Parse(s); m != (api.Message{}) || err != api.ErrParse {
			t.Error(len(s), m, err)
		}
	}
}

// P8.1: Compare goes by one field after the other, of valid messages and of others.
func TestCompare(t *testing.T) {
	var l []api.Message
	for _, n := range []int{0, 1, -1, math.MinInt, math.MaxInt} {
		for i := range 9 {
			var m api.Message
			*[]*int{&m.Day, &m.From, &m.No, &m.Kind, &m.Claim, &m.Find, &m.Family, &m.Grave, &m.Value}[i] = n
			l = append(l, m)
			// All fields behind it are the other way round.
			for _, behind := range []*int{&m.Day, &m.From, &m.No, &m.Kind, &m.Claim, &m.Find, &m.Family, &m.Grave, &m.Value}[i+1:] {
				*behind = -(n / 2)
			}
			l = append(l, m)
		}
	}
	x := noise(2)
	for range 60 {
		l = append(l, api.Message{From: x.below(2), No: x.below(2), Day: x.below(2), Kind: x.below(2), Claim: x.below(2), Find: x.below(2), Family: x.below(2), Grave: x.below(2), Value: x.below(2)})
	}
	for _, a := range l {
		for _, b := range l {
			want := 0
			if isAhead(a, b) {
				want = -1
			} else if isAhead(b, a) {
				want = 1
			}
			if got := court.Compare(a, b); got != want || (got == 0) != (a == b) {
				t.Fatal(a, b, got, want)
			}
		}
	}
}
