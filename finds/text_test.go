package finds_test

import (
	"strings"
	"testing"

	"bonehouse/api"
	"bonehouse/finds"
)

// texts returns lines of finds.
func texts() map[string]api.Find {
	most := api.Find{No: 4095, Element: 31, Side: api.EitherS, Zones: api.Set{1<<16 - 1}, Age: api.Span{Lo: 120, Hi: 120}, Sex: api.MaleX, Wear: 7, Layer: 255, Square: 255, Measures: []api.Measure{{Kind: 15, Value: 100000, Error: 1000}}}
	return map[string]api.Find{
		"find 1 12 1 0-1 20-40 2 1 2 3 5=100/4":                                       first(),
		"find 2 12 3 2 30-60 0 3 4 5 5=103/2":                                         second(),
		"find 7 12 1 0,3-4 20-35 1 2 4 9 3=4512/10":                                   {No: 7, Element: 12, Side: 1, Zones: api.Set{1 | 8 | 16}, Age: api.Span{Lo: 20, Hi: 35}, Sex: 1, Wear: 2, Layer: 4, Square: 9, Measures: []api.Measure{{Kind: 3, Value: 4512, Error: 10}}},
		"find 0 0 0 0 0-0 0 0 0 0":                                                    {Zones: api.Set{1}},
		"find 0 9 0 15 0-120 0 0 0 0 0=0/0 1=10/1":                                    {Element: 9, Zones: api.Set{1 << 15}, Age: api.Span{Hi: 120}, Measures: []api.Measure{{}, {Kind: 1, Value: 10, Error: 1}}},
		"find 4095 31 3 0-15 120-120 4 7 255 255 15=100000/1000":                      most,
		"find 1 10 2 0,2 1-2 3 1 1 1 0=1/0 1=1/0 2=1/0 3=1/0 4=1/0 5=1/0 6=1/0 7=1/0": {No: 1, Element: 10, Side: 2, Zones: api.Set{5}, Age: api.Span{Lo: 1, Hi: 2}, Sex: 3, Wear: 1, Layer: 1, Square: 1, Measures: []api.Measure{{Kind: 0, Value: 1}, {Kind: 1, Value: 1}, {Kind: 2, Value: 1}, {Kind: 3, Value: 1}, {Kind: 4, Value: 1}, {Kind: 5, Value: 1}, {Kind: 6, Value: 1}, {Kind: 7, Value: 1}}},
	}
}

// eventTexts returns lines of events.
func eventTexts() map[string]api.Event {
	return map[string]api.Event{
		"join 2 20 1 2 9":                                 {No: 2, Known: 20, Kind: api.JoinE, Find: 1, Other: 2, Data: api.Find{No: 9}},
		"join 0 0 0 1 0":                                  {Kind: api.JoinE, Other: 1},
		"split 3 30 9":                                    {No: 3, Known: 30, Kind: api.SplitE, Find: 9},
		"split 4095 1048576 4095":                         {No: 4095, Known: 1048576, Kind: api.SplitE, Find: 4095},
		"measure 4 31 9 3=4512/10":                        {No: 4, Known: 31, Kind: api.MeasureE, Find: 9, Data: api.Find{Measures: []api.Measure{{Kind: 3, Value: 4512, Error: 10}}}},
		"measure 0 0 0 0=0/0":                             {Kind: api.MeasureE, Data: api.Find{Measures: []api.Measure{{}}}},
		"date 0 0 9 20-20":                                {Kind: api.DateE, Find: 9, Data: api.Find{Age: api.Span{Lo: 20, Hi: 20}}},
		"date 1 2 3 0-120":                                {No: 1, Known: 2, Kind: api.DateE, Find: 3, Data: api.Find{Age: api.Span{Hi: 120}}},
		"assign 0 0 9 12 3 0,3-5 4 7":                     {Kind: api.AssignE, Find: 9, Data: api.Find{Element: 12, Side: 3, Zones: api.Set{57}, Sex: 4, Wear: 7}},
		"withdraw 0 0 9":                                  {Kind: api.WithdrawE, Find: 9},
		"enter 3 7 find 0 0 0 0 0-0 0 0 0 0":              {No: 3, Known: 7, Kind: api.EnterE, Data: api.Find{Zones: api.Set{1}}},
		"enter 0 1 find 1 12 1 0-1 20-40 2 1 2 3 5=100/4": {Known: 1, Kind: api.EnterE, Find: 1, Data: first()},
	}
}

// P2.7: lines of finds and events.
func TestTexts(t *testing.T) {
	for text, f := range texts() {
		if s, err := finds.PrintFind(f); s != text || err != api.OK {
			t.Error(text, s, err)
		}
		if x, err := finds.ParseFind(text); !same(x, f) || err != api.OK {
			t.Error(text, x, err)
		}
		e := api.Event{No: 12, Known: 345, Kind: api.EnterE, Find: f.No, Data: f}
		if s, err := finds.PrintEvent(e); s != "enter 12 345 "+text || err != api.OK {
			t.Error(text, s, err)
		}
		if x, err := finds.ParseEvent("enter 12 345 " + text); !sameEvent(x, e) || err != api.OK {
			t.Error(text, x, err)
		}
	}
	for text, e := range eventTexts() {
		if s, err := finds.PrintEvent(e); s != text || err != api.OK {
			t.Error(text, s, err)
		}
		if x, err := finds.ParseEvent(text); !sameEvent(x, e) || err != api.OK {
			t.Error(text, x, err)
		}
	}
}

// P2.7: what is not printed.
func TestNotPrinted(t *testing.T) {
	bad := first()
	bad.No = 4096
	for i, f := range []api.Find{{}, bad} {
		if s, err := finds.PrintFind(f); s != "" || err != api.ErrFind {
			t.Error(i, s, err)
		}
	}
	for i, e := range []api.Event{{}, {Kind: 8}, enter(0, bad), join(0, 1, 1, 2), split(-1, 1), {Kind: api.SplitE, Other: 1}, {Kind: api.MeasureE}, {Kind: api.MeasureE, Data: api.Find{Measures: make([]api.Measure, 2)}}, date(0, 1, 2, 1), assign(0, 1, api.Find{})} {
		if s, err := finds.PrintEvent(e); s != "" || err != api.ErrEvent {
			t.Error(i, s, err)
		}
	}
}

// notParsed tells whether s is the line of neither a find nor an event.
func notParsed(t *testing.T, s string) {
	t.Helper()
	if f, err := finds.ParseFind(s); !none(f) || err != api.ErrParse {
		t.Errorf("%.100q %v %v", s, f, err)
	}
	if e, err := finds.ParseEvent(s); !sameEvent(e, api.Event{}) || err != api.ErrParse {
		t.Errorf("%.100q %v %v", s, e, err)
	}
}

// P2.7: lines of no find and no event.
func TestNoTexts(t *testing.T) {
	for _, s := range []string{
		"", " ", "\n", "find", "find ", "enter", "hold 0 0 9", "find 1", "enter 1 2", "enter 1 2 ", "enter 1 2 find", "split", "split 3", "split 3 30", "split 3 30 ", "join 2 20 1 2", "date 0 0 9", "measure 0 0 9", "assign 0 0 9 12 3 0 4", "withdraw", "withdraw 0 0",
		"split 3 30 9 ", "split 3 30 9 1", "split 3 30 9\n", " split 3 30 9", "split  3 30 9", "split\t3 30 9", "Split 3 30 9", "SPLIT 3 30 9", "splits 3 30 9", "split 3,30,9", "withdraw 0 0 9 9", "join 2 20 1 2 9 9", "date 0 0 9 1-2 3", "measure 0 0 9 1=1/1 2=1/1", "assign 0 0 9 12 3 0 4 7 1",
		"split 03 30 9", "split 3 030 9", "split 3 30 09", "split 3 30 00", "split +3 30 9", "split 3 30 +9", "split -3 30 9", "split -0 30 9", "split 3 30 -0", "split 3 30 9.0", "split 3 30 0x9", "split 3 3_0 9", "split 3 30 1e1", "split 3 30 \u0669", "split 3 30 9\x00",
		"split 4096 30 9", "split 3 1048577 9", "split 3 30 4096", "split 3 30 99999999999999999999999999", "split 3 30 9223372036854775808", "split 3 30 18446744073709551625", "split 3 30 -1",
		"join 2 20 1 1 9", "join 2 20 1 4096 9", "join 2 20 1 2 4096", "join 2 20 1 2 -1", "join 2 20 1 2 09",
		"measure 0 0 9 3", "measure 0 0 9 3=5", "measure 0 0 9 3/5", "measure 0 0 9 =5/1", "measure 0 0 9 3=/1", "measure 0 0 9 3=5/", "measure 0 0 9 3=5/1/1", "measure 0 0 9 3=5=1/1", "measure 0 0 9 3/5=1", "measure 0 0 9 16=5/1", "measure 0 0 9 3=100001/1", "measure 0 0 9 3=5/1001", "measure 0 0 9 03=5/1", "measure 0 0 9 3=05/1", "measure 0 0 9 3=5/01", "measure 0 0 9 3=-5/1", "measure 0 0 9 3=5/-1", "measure 0 0 9 +3=5/1", "measure 0 0 9 ",
		"date 0 0 9 20", "date 0 0 9 20-", "date 0 0 9 -20", "date 0 0 9 -", "date 0 0 9 21-20", "date 0 0 9 20-121", "date 0 0 9 020-30", "date 0 0 9 20-030", "date 0 0 9 20--30", "date 0 0 9 20-30-40", "date 0 0 9 20 - 30", "date 0 0 9 -1-30", "date 0 0 9 20,30", "date 0 0 9 +20-30",
		"assign 0 0 9 12 0 0 4 7", "assign 0 0 9 9 1 0 4 7", "assign 0 0 9 12 3 - 4 7", "assign 0 0 9 12 3  4 7", "assign 0 0 9 12 3 0,1 4 7", "assign 0 0 9 12 3 16 4 7", "assign 0 0 9 12 3 0-16 4 7", "assign 0 0 9 12 3 3,1 4 7", "assign 0 0 9 12 3 0 5 7", "assign 0 0 9 12 3 0 4 8", "assign 0 0 9 32 3 0 4 7", "assign 0 0 9 12 4 0 4 7", "assign 0 0 9 12 3 256 4 7", "assign 0 0 9 12 3 00 4 7",
		"enter 3 7 split 1 2 3", "enter 3 7 enter 3 7 find 0 0 0 0 0-0 0 0 0 0", "enter 3 find 0 0 0 0 0-0 0 0 0 0", "enter 3 7 0 find 0 0 0 0 0-0 0 0 0 0", "enter 3 7 find 0 0 0 0 0-0 0 0 0", "enter 3 7 find 0 0 0 0 0-0 0 0 0 0 0", "enter 3 7  find 0 0 0 0 0-0 0 0 0 0", "enter 4096 7 find 0 0 0 0 0-0 0 0 0 0", "enter 3 7 0 0 0 0 0-0 0 0 0 0",
		"find 0 0 0 0 0-0 0 0 0", "find 0 0 0 0 0-0 0 0 0 0 ", "find 0 0 0 0 0-0 0 0 0 0 0", "find 0 0 0 0 0-0 0 0 0 0\n", " find 0 0 0 0 0-0 0 0 0 0", "find  0 0 0 0 0-0 0 0 0 0", "Find 0 0 0 0 0-0 0 0 0 0", "finds 0 0 0 0 0-0 0 0 0 0", "0 0 0 0 0-0 0 0 0 0",
		"find 4096 0 0 0 0-0 0 0 0 0", "find 0 32 1 0 0-0 0 0 0 0", "find 0 12 0 0 0-0 0 0 0 0", "find 0 0 1 0 0-0 0 0 0 0", "find 0 0 0 - 0-0 0 0 0 0", "find 0 0 0 0,1 0-0 0 0 0 0", "find 0 0 0 0-0 0-0 0 0 0 0", "find 0 0 0 16 0-0 0 0 0 0", "find 0 0 0 0 1-0 0 0 0 0", "find 0 0 0 0 0 0 0 0 0", "find 0 0 0 0 0-121 0 0 0 0", "find 0 0 0 0 0-0 5 0 0 0", "find 0 0 0 0 0-0 0 8 0 0", "find 0 0 0 0 0-0 0 0 256 0", "find 0 0 0 0 0-0 0 0 0 256", "find 0 0 0 0 0-0 0 0 0 -1", "find 00 0 0 0 0-0 0 0 0 0", "find -0 0 0 0 0-0 0 0 0 0", "find 0 0 0 0 00-0 0 0 0 0",
		"find 0 0 0 0 0-0 0 0 0 0 1=1/1 1=1/1", "find 0 0 0 0 0-0 0 0 0 0 2=1/1 1=1/1", "find 0 0 0 0 0-0 0 0 0 0 16=1/1", "find 0 0 0 0 0-0 0 0 0 0 1=1/1 ", "find 0 0 0 0 0-0 0 0 0 0  1=1/1", "find 0 0 0 0 0-0 0 0 0 0 1=1", "find 0 0 0 0 0-0 0 0 0 0 0=1/0 1=1/0 2=1/0 3=1/0 4=1/0 5=1/0 6=1/0 7=1/0 8=1/0",
		"enter 0 0 find 0 0 0 0 0-0 0 0 0 0 0=1/0 1=1/0 2=1/0 3=1/0 4=1/0 5=1/0 6=1/0 7=1/0 8=1/0", "enter 0 0 find 0 0 0 0 0-0 0 0 0 0 0=1/0 1=1/0 2=1/0 3=1/0 4=1/0 5=1/0 6=1/0 7=1/0 ",
		strings.Repeat("find ", 100000), strings.Repeat(" ", 100000), "split 3 30 " + strings.Repeat("9", 100000), "find 0 0 0 " + strings.Repeat("0,", 100000), "find 0 0 0 0 0-0 0 0 0 0" + strings.Repeat(" 1=1/1", 100000),
	} {
		notParsed(t, s)
	}
	for text := range texts() { // the line of a find is not that of an event, and the other way round
		if e, err := finds.ParseEvent(text); !sameEvent(e, api.Event{}) || err != api.ErrParse {
			t.Error(text, e, err)
		}
	}
	for text := range eventTexts() {
		if f, err := finds.ParseFind(text); !none(f) || err != api.ErrParse {
			t.Error(text, f, err)
		}
	}
}

// P2.7: printers and parsers undo each other.
func TestTextsAreInverse(t *testing.T) {
	x := noise(13)
	for no := range 500 {
		f := aFind(&x, no)
		text, err := finds.PrintFind(f)
		if err != api.OK {
			t.Fatal(f, err)
		}
		if g, err := finds.ParseFind(text); !same(f, g) || err != api.OK {
			t.Fatal(f, text, g, err)
		}
	}
	for i, r := range registers(t, allKinds()...) {
		for _, e := range r.Events {
			text, err := finds.PrintEvent(e)
			if err != api.OK {
				t.Fatal(i, e, err)
			}
			if y, err := finds.ParseEvent(text); !sameEvent(e, y) || err != api.OK {
				t.Fatal(i, e, text, y, err)
			}
		}
	}
}

// P2.7: a line with one byte more, less or other is that of what is parsed, or of nothing.
func TestNearTexts(t *testing.T) {
	check := func(s string) bool {
		f, err1 := finds.ParseFind(s)
		e, err2 := finds.ParseEvent(s)
		if err1 != api.OK && (err1 != api.ErrParse || !none(f)) || err2 != api.OK && (err2 != api.ErrParse || !sameEvent(e, api.Event{})) {
			t.Fatal(s, f, err1, e, err2)
		}
		if text, err := finds.PrintFind(f); err1 == api.OK && (text != s || err != api.OK) {
			t.Fatal(s, f, text, err)
		}
		if text, err := finds.PrintEvent(e); err2 == api.OK && (text != s || err != api.OK) {
			t.Fatal(s, e, text, err)
		}
		return err1 == api.OK || err2 == api.OK
	}
	sound, unsound := 0, 0
	var lines []string
	for text := range texts() {
		lines = append(lines, text)
	}
	for text := range eventTexts() {
		lines = append(lines, text)
	}
	for _, text := range lines {
		for i := range len(text) + 1 {
			for _, c := range []string{"", "0", "1", "3", "9", " ", "-", ",", "=", "/", "+", "a", "\n"} {
				for _, s := range []string{text[:i] + c + text[i:], text[:i] + c + text[min(i+1, len(text)):]} {
					if check(s) {
						sound++
					} else {
						unsound++
					}
				}
			}
		}
	}
	if sound < 500 || unsound < 500 {
		t.Error(sound, unsound)
	}
}
