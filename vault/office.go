package vault

import (
	"bonehouse/api"
	"bonehouse/court"
	"bonehouse/journal"
)

const sectors = 1024 // of the disk of an office

// office is an office of a model.
type office struct {
	disk *journal.Disk
	book *journal.Book // nil if the last one that was to be opened could not be
}

// isOpen reports whether the book is open. Once the power has gone off it is on again only behind Restart, and then there is another book.
func (o office) isOpen() bool { return o.book != nil && o.disk.Up() }

// begin has offices be there.
func (y *Model) begin(x words) (reply, api.Errno) {
	n := x.numbers
	y.terms = api.Terms{Notice: n[1], Sampling: n[2], Lease: n[3]}
	for range n[0] {
		disk, _ := journal.NewDisk(sectors)
		book, _ := journal.Make(disk, n[0])
		y.offices = append(y.offices, office{disk, book})
	}
	return reply{}, api.OK
}

// pass has days pass.
func (y *Model) pass(x words) (reply, api.Errno) {
	if y.day+x.numbers[0] > api.MaxDay {
		return reply{}, api.ErrArg
	}
	y.day += x.numbers[0]
	return tells(api.OK, y.day)
}

// write has an office write an entry.
func (y *Model) write(x words) (reply, api.Errno) {
	p := x.offices[0]
	if m, is := x.form.(api.Message); is {
		if _, _, err := court.Say(y.court(p), m); err != api.OK {
			return reply{}, err
		}
	}
	book := y.offices[p].book
	e := api.Entry{Office: p, No: book.Tally().Have[p], Body: decimal(y.day) + " " + x.text}
	if err := book.Add(e); err != api.OK {
		return reply{}, err
	}
	return prints(decimal(p) + "." + decimal(e.No)), api.OK
}

// books returns the books of the offices that a command names.
func (y *Model) books(x words) (*journal.Book, *journal.Book) {
	return y.offices[x.offices[0]].book, y.offices[x.offices[1]].book
}

// send has an office send another one what its book lacks.
func (y *Model) send(x words) (reply, api.Errno) {
	from, to := y.books(x)
	n, err := send(from, to, x.text)
	return tells(err, n)
}

// send sends one book what another one lacks, by a pattern of what the network does to it, and returns how many entries changed that one.
func send(from, to *journal.Book, pattern string) (int, api.Errno) {
	wanted, _ := from.Wanted(to.Tally())
	var come, late []api.Entry
	for i, e := range wanted {
		switch pattern[i%len(pattern)] {
		case '1':
			come = append(come, e)
		case '2':
			come = append(come, e, e)
		case '3':
			late = append(late, e)
		}
	}
	return to.Take(append(come, late...))
}

// talk has two books tell each other in what they differ.
func (y *Model) talk(x words) (reply, api.Errno) {
	first, second := y.books(x)
	var toFirst, toSecond []api.Entry
	for asks := first.Begin(); len(asks) > 0; {
		var sent []api.Entry
		asks, sent, _ = second.Answer(asks)
		toFirst = append(toFirst, sent...)
		asks, sent, _ = first.Answer(asks)
		toSecond = append(toSecond, sent...)
	}
	n, err := second.Take(toSecond)
	if err != api.OK {
		return reply{}, err
	}
	m, err := first.Take(toFirst)
	return tells(err, m, n)
}

// sendAll has all offices with open books send each other what they lack, until none lacks anything.
func (y *Model) sendAll(words) (reply, api.Errno) {
	all := 0
	for {
		n, err := y.sendRound()
		if err != api.OK || n == 0 {
			return tells(err, all)
		}
		all += n
	}
}

// sendRound has each of these offices send each other one once what it lacks, and returns how many entries changed a book.
func (y *Model) sendRound() (int, api.Errno) {
	all := 0
	for p, from := range y.offices {
		for q, to := range y.offices {
			if p == q || !from.isOpen() || !to.isOpen() {
				continue
			}
			n, err := send(from.book, to.book, "1")
			if err != api.OK {
				return 0, err
			}
			all += n
		}
	}
	return all, api.OK
}

// crash has the power of a disk go off at a call that is to come.
func (y *Model) crash(x words) (reply, api.Errno) {
	y.offices[x.offices[0]].disk.Arm(x.numbers[0])
	return reply{}, api.OK
}

// open turns the power of a disk on, and opens its book.
func (y *Model) open(x words) (reply, api.Errno) {
	o := &y.offices[x.offices[0]]
	keep := make([]byte, len(x.text))
	for i := range keep {
		keep[i] = 8 * (x.text[i] - '0')
	}
	o.disk.Restart(string(keep))
	book, err := journal.Open(o.disk)
	o.book = book
	return reply{}, err
}

// compact compacts a book.
func (y *Model) compact(x words) (reply, api.Errno) {
	n, err := y.offices[x.offices[0]].book.Compact()
	return tells(err, n)
}
