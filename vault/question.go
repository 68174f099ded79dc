package vault

import (
	"slices"

	"bonehouse/api"
	"bonehouse/count"
	"bonehouse/court"
	"bonehouse/parts"
	"bonehouse/plan"
	"bonehouse/ties"
)

// What an office makes of its book is valid, and so are its court and the graph that counts: functions that are asked of these have no errors but those of too many groups, partitions or ties, and of partitions that are not allowed.

// refused tells how many entries an office refuses.
func (y *Model) refused(x words) (reply, api.Errno) {
	return tells(api.OK, y.view(x.offices[0]).refused)
}

// finds tells the numbers of the finds.
func (y *Model) finds(x words) (reply, api.Errno) {
	var numbers []int
	for _, f := range y.view(x.offices[0]).standing() {
		numbers = append(numbers, f.No)
	}
	if len(numbers) == 0 {
		return reply{}, api.OK
	}
	return tells(api.OK, numbers...)
}

// strength tells how strong the ties are that count.
func (y *Model) strength(x words) (reply, api.Errno) {
	z, err := y.view(x.offices[0]).ground()
	if err != api.OK {
		return reply{}, err
	}
	g, err := z.whole()
	if err != api.OK {
		return reply{}, err
	}
	n, err := ties.Soundest(g)
	return tells(err, n)
}

// repeat tells of which zone of an element there is the most, and how many people have it.
func (y *Model) repeat(x words) (reply, api.Errno) {
	z, err := y.view(x.offices[0]).ground()
	if err != api.OK {
		return reply{}, err
	}
	element, zone, _ := count.Zones(z.finds)
	s, err := count.Repeat(z.finds, element, zone)
	return tells(err, element, zone, s.Lo, s.Hi)
}

// asked returns what a question goes by, and the graph that counts.
func (y *Model) asked(x words) (ground, api.Graph, api.Errno) {
	z, err := y.view(x.offices[0]).ground()
	if err != api.OK {
		return ground{}, api.Graph{}, err
	}
	g, err := z.graph()
	return z, g, err
}

// least tells how many people there are at least.
func (y *Model) least(x words) (reply, api.Errno) {
	_, g, err := y.asked(x)
	if err != api.OK {
		return reply{}, err
	}
	n, err := count.Least(g)
	if err != api.OK {
		return reply{}, err
	}
	text := decimal(n)
	if isSharp, _ := count.Sharp(g); isSharp {
		text += " sharp"
	}
	return reply{[]string{text}, []statement{parted(g, n), beyond(g, n-1)}}, api.OK
}

// relate tells whether two finds are surely, possibly or never of one person.
func (y *Model) relate(x words) (reply, api.Errno) {
	z, g, err := y.asked(x)
	if err != api.OK {
		return reply{}, err
	}
	l, err := z.allNodes(x.numbers[:2])
	if err != api.OK {
		return reply{}, err
	}
	p := pair{graph: g, most: x.numbers[2], a: l[0], b: l[1]}
	how, err := parts.Relation(p.graph, p.most, p.a, p.b)
	switch {
	case err != api.OK:
		return reply{}, err
	case how == api.SurelyP:
		return p.forced("surely", true)
	case how == api.NeverP:
		return p.forced("never", false)
	}
	return p.possible(), api.OK
}

// plan tells for how much it can be decided whether two finds are of one person.
func (y *Model) plan(x words) (reply, api.Errno) {
	z, g, err := y.asked(x)
	if err != api.OK {
		return reply{}, err
	}
	pairs := [][]int{x.numbers[:2]} // of finds: those of the question, and then those of the trials
	var costs []int
	for trial := range slices.Chunk(x.numbers[3:], 3) {
		pairs = append(pairs, trial[:2])
		costs = append(costs, trial[2])
	}
	var nodes [][2]int
	for _, finds := range pairs {
		l, err := z.allNodes(finds)
		if err != api.OK {
			return reply{}, err
		}
		nodes = append(nodes, [2]int(l))
	}
	p, err := plan.Pairs(g, x.numbers[2], nodes[0][0], nodes[0][1], nodes[1:], costs)
	if err != api.OK {
		return reply{}, err
	}
	cost, is, _ := plan.Cost(p)
	if !is {
		return reply{[]string{"none"}, []statement{undecided(p)}}, api.OK
	}
	return reply{[]string{decimal(cost)}, []statement{decided(p, cost)}}, api.OK
}

// claims tells how far the claims have come.
func (y *Model) claims(x words) (reply, api.Errno) {
	c := y.court(x.offices[0])
	l, err := court.Claims(c)
	var lines []string
	for _, claim := range l {
		state, day, _ := court.Status(c, claim.No)
		lines = append(lines, lineOf(claim.No, state, day))
	}
	return reply{lines: lines}, err
}

// rulings tells the rulings.
func (y *Model) rulings(x words) (reply, api.Errno) {
	l, err := court.Rulings(y.court(x.offices[0]))
	var lines []string
	for _, r := range l {
		lines = append(lines, lineOf(r.Claim, r.Day, r.Find, r.Family))
	}
	return reply{lines: lines}, err
}

// buried tells what is buried.
func (y *Model) buried(x words) (reply, api.Errno) {
	l, err := court.Buried(y.court(x.offices[0]))
	var lines []string
	for _, b := range l {
		lines = append(lines, lineOf(b.Find, b.Grave, b.Lease, b.Day))
	}
	return reply{lines: lines}, err
}

// agree tells whether two offices know the same.
func (y *Model) agree(x words) (reply, api.Errno) {
	p, q := x.offices[0], x.offices[1]
	if same, _ := court.Same(y.court(p), y.court(q)); same && y.view(p).equals(y.view(q)) {
		return prints("yes"), api.OK
	}
	return prints("no"), api.OK
}
