package finds

import (
	"slices"

	"bonehouse/api"
)

// Parts returns the two finds of which a find was made, and whether a join made it.
func Parts(r api.Register, no, known int) ([2]int, bool, api.Errno) {
	l, err := lookUp(r, no, known)
	if err != api.OK {
		return [2]int{}, false, err
	}
	return l[no].of, l[no].made, api.OK
}

// Whole returns the number of the find to which a find belongs, by joins that were not split.
func Whole(r api.Register, no, known int) (int, api.Errno) {
	l, err := lookUp(r, no, known)
	if err != api.OK {
		return 0, err
	}
	return l.whole(no), api.OK
}

// whole is Whole for a find that is there.
func (l ledger) whole(no int) int {
	for l[no].owner != no {
		no = l[no].owner
	}
	return no
}

// Leaves returns the numbers of the finds that were entered of which a find consists, in increasing order.
func Leaves(r api.Register, no, known int) ([]int, api.Errno) {
	l, err := lookUp(r, no, known)
	if err != api.OK {
		return nil, err
	}
	var leaves []int
	for _, part := range l.within(no) {
		if !l[part].made {
			leaves = append(leaves, part)
		}
	}
	slices.Sort(leaves)
	return leaves, api.OK
}

// within returns the numbers of the find and of all its parts. None comes twice: finds that stand together have no common parts.
func (l ledger) within(no int) []int {
	found := []int{no}
	if x := l[no]; x.made {
		found = append(found, l.within(x.of[0])...)
		found = append(found, l.within(x.of[1])...)
	}
	return found
}

// History returns the numbers of the events, known on a day, about the find or one of its parts, in increasing order.
func History(r api.Register, no, known int) ([]int, api.Errno) {
	l, err := lookUp(r, no, known)
	if err != api.OK {
		return nil, err
	}
	own := l.within(no)
	var events []int
	for _, e := range eventsBy(r, known) {
		if share(about(e), own) {
			events = append(events, e.No)
		}
	}
	return events, api.OK
}

// share reports whether two lists have a common number.
func share(a, b []int) bool {
	return slices.ContainsFunc(a, func(n int) bool { return slices.Contains(b, n) })
}

// Touched returns the numbers of the finds that an event touches, in increasing order; ErrArg unless it is the index of one.
func Touched(r api.Register, event int) ([]int, api.Errno) {
	if err := Check(r); err != api.OK {
		return nil, err
	}
	if event < 0 || event >= len(r.Events) {
		return nil, api.ErrArg
	}
	count := event + 1
	l, err := replay(api.Register{Events: r.Events[:count:count]})
	if err != api.OK {
		return nil, err
	}
	meant := about(r.Events[event])
	var parts []int
	for _, no := range meant {
		parts = append(parts, l.within(no)...)
	}
	var touched []int
	for _, no := range l.numbers() {
		if slices.Contains(parts, no) || share(meant, l.within(no)) {
			touched = append(touched, no)
		}
	}
	return touched, api.OK
}

// view is what can change of a find from one day to another one.
type view struct {
	find   shape
	stands bool
	whole  int
}

// viewOf returns what is known of a find, and whether it is there.
func (l ledger) viewOf(no int) (view, bool) {
	x, is := l[no]
	if !is {
		return view{}, false
	}
	return view{find: shapeOf(x.find), stands: x.stands, whole: l.whole(no)}, true
}

// Changed returns the numbers of the finds that are known otherwise on one day than on the other one, in increasing order.
func Changed(r api.Register, before, after int) ([]int, api.Errno) {
	first, err := asKnown(r, before)
	if err != api.OK {
		return nil, err
	}
	second, err := asKnown(r, after)
	if err != api.OK {
		return nil, err
	}
	if after < before {
		first, second = second, first
	}
	var changed []int
	for _, no := range second.numbers() { // a find that was there once is there on all later days
		x, is := first.viewOf(no)
		if y, _ := second.viewOf(no); !is || x != y {
			changed = append(changed, no)
		}
	}
	return changed, api.OK
}
