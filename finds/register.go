package finds

import (
	"maps"
	"slices"

	"bonehouse/api"
)

// record is what is known of a find that is there.
type record struct {
	find   api.Find
	stands bool
	made   bool   // by a join
	of     [2]int // the finds of which it was made
	owner  int    // the find that a join made of it, if that was not split since; otherwise the find itself
}

// ledger is what events make of the finds that are there, by their numbers. A find that is not there has the zero record, which does not stand.
type ledger map[int]record

// Check returns the error of the first event of r that does not continue those before it.
func Check(r api.Register) api.Errno {
	_, err := replay(r)
	return err
}

// Enter returns r with e as its last event.
func Enter(r api.Register, e api.Event) (api.Register, api.Errno) {
	if err := Check(r); err != api.OK {
		return api.Register{}, err
	}
	count := len(r.Events)
	if count == api.MaxEvents {
		return api.Register{}, api.ErrLimit
	}
	longer := api.Register{Events: append(r.Events[:count:count], e)}
	if err := Check(longer); err != api.OK {
		return api.Register{}, err
	}
	for i := range longer.Events {
		longer.Events[i].Data = fresh(longer.Events[i].Data)
	}
	return longer, api.OK
}

// replay returns what the events of r make, or the error of the first one that is wrong.
func replay(r api.Register) (ledger, api.Errno) {
	if len(r.Events) > api.MaxEvents {
		return nil, api.ErrLimit
	}
	l := ledger{}
	day := 0
	for i, e := range r.Events {
		if CheckEvent(e) != api.OK {
			return nil, api.ErrEvent
		}
		if e.No != i || e.Known < day || !l.follow(e) {
			return nil, api.ErrOrder
		}
		day = e.Known
	}
	return l, api.OK
}

// follow makes what e says so, and reports whether it continues what is there; if not, the ledger is of no more use.
func (l ledger) follow(e api.Event) bool {
	switch e.Kind {
	case api.EnterE:
		return l.add(record{find: e.Data, stands: true, owner: e.Find})
	case api.JoinE:
		return l.join(e)
	case api.SplitE:
		return l.split(e.Find)
	}
	return l.change(e)
}

// add puts x there, and reports whether no find with its number was there.
func (l ledger) add(x record) bool {
	if _, is := l[x.find.No]; is {
		return false
	}
	l[x.find.No] = x
	return true
}

// join makes a find of two, and reports whether it can be made.
func (l ledger) join(e api.Event) bool {
	a, b := l[e.Find], l[e.Other]
	if !a.stands || !b.stands {
		return false
	}
	f, is := joined(a.find, b.find, e.Data.No)
	if !is || !l.add(record{find: f, stands: true, made: true, of: [2]int{e.Find, e.Other}, owner: f.No}) {
		return false
	}
	a.stands, b.stands = false, false
	a.owner, b.owner = f.No, f.No
	l[e.Find], l[e.Other] = a, b
	return true
}

// split lets the finds of which a find was made stand again, and reports whether it can be split. Nothing can have changed them since, as they did not stand.
func (l ledger) split(no int) bool {
	whole := l[no]
	if !whole.stands || !whole.made {
		return false
	}
	whole.stands = false
	l[no] = whole
	for _, part := range whole.of {
		x := l[part]
		x.stands, x.owner = true, part
		l[part] = x
	}
	return true
}

// change makes what an event about one find says of it so, and reports whether it can be.
func (l ledger) change(e api.Event) bool {
	x := l[e.Find]
	if !x.stands {
		return false
	}
	switch e.Kind {
	case api.MeasureE:
		x.find.Measures = withMeasure(x.find.Measures, e.Data.Measures[0])
	case api.DateE:
		x.find.Age = e.Data.Age
	case api.AssignE:
		x.find = assigned(x.find, e.Data)
	case api.WithdrawE:
		x.stands = false
	}
	l[e.Find] = x
	return len(x.find.Measures) <= api.MaxMeasures
}

// eventsBy returns the events of r that are known on a day.
func eventsBy(r api.Register, day int) []api.Event {
	count := 0
	for count < len(r.Events) && r.Events[count].Known <= day {
		count++
	}
	return r.Events[:count:count]
}

// asKnown returns what the events of r make that are known on a day; the error of Check, or ErrArg for what is not a day.
func asKnown(r api.Register, day int) (ledger, api.Errno) {
	if err := Check(r); err != api.OK {
		return nil, err
	}
	if !isDay(day) {
		return nil, api.ErrArg
	}
	return replay(api.Register{Events: eventsBy(r, day)})
}

// lookUp returns what is known on a day; ErrNone if the find is not there by then.
func lookUp(r api.Register, no, day int) (ledger, api.Errno) {
	l, err := asKnown(r, day)
	if err != api.OK {
		return nil, err
	}
	if !isNo(no) {
		return nil, api.ErrArg
	}
	if _, is := l[no]; !is {
		return nil, api.ErrNone
	}
	return l, api.OK
}

// At returns the find as it is known on a day; if it stands no more, as it was when it stood last.
func At(r api.Register, no, known int) (api.Find, api.Errno) {
	l, err := lookUp(r, no, known)
	if err != api.OK {
		return api.Find{}, err
	}
	return fresh(l[no].find), api.OK
}

// Standing returns the finds that stand, as known on a day, by their numbers.
func Standing(r api.Register, known int) ([]api.Find, api.Errno) {
	l, err := asKnown(r, known)
	if err != api.OK {
		return nil, err
	}
	var standing []api.Find
	for _, no := range l.numbers() {
		if l[no].stands {
			standing = append(standing, fresh(l[no].find))
		}
	}
	return standing, api.OK
}

// numbers returns the numbers of the finds that are there, in increasing order.
func (l ledger) numbers() []int { return slices.Sorted(maps.Keys(l)) }
