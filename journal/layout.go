package journal

import (
	"slices"

	"bonehouse/api"
)

// The heads of a disk, by the sectors in which they stand.
const (
	evenHead = iota // that of the even generations
	oddHead
	heads // how many there are
)

// The halves of a disk.
const (
	lowHalf = iota
	highHalf
	halves // how many there are
)

// Of a sector that is a head, or the first one of a record: the mark is its last byte, so that a sector that is torn has none.
const (
	halfAt       = 53
	officesAt    = 54
	generationAt = 55
	markAt       = api.SectorSize - 1
	mark         = 1
)

// Of a record.
const (
	payloadAt  = 4 // ahead of the payload stands its length
	bodyAt     = 2 // of the payload
	maxPayload = bodyAt + api.MaxBody
	maxRecord  = 1 + (payloadAt+maxPayload)/api.SectorSize
)

const leastSectors = heads + halves // of a disk with a book

// putNumber writes n into bytes, the lowest one first.
func putNumber(l []byte, n uint64) {
	for i := range l {
		l[i] = byte(n)
		n >>= 8
	}
}

// number returns the number that stands in bytes, the lowest one first.
func number(l []byte) uint64 {
	n := uint64(0)
	for _, b := range slices.Backward(l) {
		n = n<<8 | uint64(b)
	}
	return n
}

// bounds returns the first sector of a half, and the one behind its last one.
func bounds(sectors, half int) (int, int) {
	size := (sectors - heads) / halves
	from := heads + half*size
	return from, from + size
}

// head is what a head says.
type head struct {
	generation    uint64
	offices, half int
}

// at returns the sector to which x is written.
func (x head) at() int { return int(x.generation % heads) }

// next returns the head by which the other half is used.
func (x head) next() head {
	x.generation++
	x.half = lowHalf + highHalf - x.half
	return x
}

// text returns the sector of x.
func (x head) text() sector {
	var s sector
	s[halfAt], s[officesAt], s[markAt] = byte(x.half), byte(x.offices), mark
	putNumber(s[generationAt:markAt], x.generation)
	return s
}

// headIn returns the head that stands in a sector, and whether one is there.
func headIn(s sector) (head, bool) {
	x := head{generation: number(s[generationAt:markAt]), offices: int(s[officesAt]), half: int(s[halfAt])}
	is := s[markAt] == mark && isFromTo(x.offices, 1, api.MaxOffices) && isFromTo(x.half, lowHalf, highHalf)
	return x, is
}

// head returns the head of d, and whether one is there.
func (d *Disk) head() (head, bool) {
	even, is := headIn(d.now[evenHead])
	odd, isOdd := headIn(d.now[oddHead])
	if isOdd && (!is || odd.generation > even.generation) {
		return odd, true
	}
	return even, is
}

// recordSize returns how many sectors the record of a payload of so many bytes has.
func recordSize(payload int) int { return 1 + (payloadAt+payload)/api.SectorSize }

// page is memory for the sectors of a record.
type page [maxRecord]sector

// fill returns the record of a valid entry, in the memory of x.
func (x *page) fill(e api.Entry) []sector {
	payload := string([]byte{byte(e.Office), byte(e.No)}) + e.Body
	l := x[:recordSize(len(payload))]
	clear(l)
	first := l[0][:]
	putNumber(first[:payloadAt], uint64(len(payload)))
	first[markAt] = mark
	rest := payload[copy(first[payloadAt:markAt], payload):]
	for i := 1; i < len(l); i++ {
		rest = rest[copy(l[i][:], rest):]
	}
	return l
}

// entryIn returns what the record that begins with l says is an entry, and how many sectors it has; false if there is none.
func entryIn(l []sector) (api.Entry, int, bool) {
	if len(l) == 0 || l[0][markAt] != mark {
		return api.Entry{}, 0, false
	}
	n := int(number(l[0][:payloadAt]))
	if !isFromTo(n, bodyAt, maxPayload) || recordSize(n) > len(l) {
		return api.Entry{}, 0, false
	}
	payload := slices.Clone(l[0][payloadAt:markAt])
	for _, s := range l[1:recordSize(n)] {
		payload = append(payload, s[:]...)
	}
	return api.Entry{Office: int(payload[0]), No: int(payload[1]), Body: string(payload[bodyAt:n])}, recordSize(n), true
}
