package finds

import "bonehouse/api"

// CheckEvent returns ErrEvent unless e is well-formed.
func CheckEvent(e api.Event) api.Errno {
	if isNo(e.No) && isDay(e.Known) && isNo(e.Find) && tells(e) && outlineOf(e) == outlineOf(bare(e)) {
		return api.OK
	}
	return api.ErrEvent
}

// tells reports whether e has a kind, and what events of this kind tell is valid.
func tells(e api.Event) bool {
	d := e.Data
	switch e.Kind {
	case api.EnterE:
		return d.No == e.Find && CheckFind(d) == api.OK
	case api.JoinE:
		return isNo(e.Other) && e.Other != e.Find && isNo(d.No)
	case api.SplitE, api.WithdrawE:
		return true
	case api.MeasureE:
		return len(d.Measures) == 1 && isMeasure(d.Measures[0])
	case api.DateE:
		return isAge(d.Age)
	case api.AssignE:
		return isBone(d)
	}
	return false
}

// bare returns e without what events of its kind do not tell.
func bare(e api.Event) api.Event {
	d := e.Data
	b := api.Event{No: e.No, Known: e.Known, Kind: e.Kind, Find: e.Find}
	switch e.Kind {
	case api.EnterE:
		b.Data = d
	case api.JoinE:
		b.Other = e.Other
		b.Data.No = d.No
	case api.MeasureE:
		b.Data.Measures = d.Measures
	case api.DateE:
		b.Data.Age = d.Age
	case api.AssignE:
		b.Data = assigned(api.Find{}, d)
	}
	return b
}

// assigned returns f with what an event assigns.
func assigned(f, data api.Find) api.Find {
	f.Element, f.Side, f.Zones, f.Sex, f.Wear = data.Element, data.Side, data.Zones, data.Sex, data.Wear
	return f
}

// outline is an event that can be compared.
type outline struct {
	no, known, kind int
	find, other     int
	data            shape
}

// outlineOf returns e as a value that can be compared.
func outlineOf(e api.Event) outline {
	return outline{no: e.No, known: e.Known, kind: e.Kind, find: e.Find, other: e.Other, data: shapeOf(e.Data)}
}

// about returns the finds that e is about.
func about(e api.Event) []int {
	if e.Kind == api.JoinE {
		return []int{e.Find, e.Other, e.Data.No}
	}
	return []int{e.Find}
}
