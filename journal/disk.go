package journal

import (
	"strings"

	"bonehouse/api"
)

// sector is what a sector of a disk contains.
type sector [api.SectorSize]byte

// write is a write into a sector.
type write struct {
	at   int
	text sector
}

// Disk is a disk of sectors whose writes are safe after a Sync.
type Disk struct {
	now     []sector // what is read
	safe    []sector // what is left if no loose write survives
	loose   []write  // those that are not safe, in order
	off     bool
	outages int // how often the power has gone off
	armed   int // of so many calls of Write or Sync that are to come the power goes off at the last one; 0: it does not
}

// NewDisk returns a disk of so many sectors of zeros.
func NewDisk(sectors int) (*Disk, api.Errno) {
	if !isFromTo(sectors, 1, api.MaxSectors) {
		return nil, api.ErrArg
	}
	return &Disk{now: make([]sector, sectors), safe: make([]sector, sectors)}, api.OK
}

// Sectors returns how many sectors d has.
func (d *Disk) Sectors() int {
	if d == nil {
		return 0
	}
	return len(d.now)
}

// Up reports whether the power is on.
func (d *Disk) Up() bool { return d != nil && !d.off }

// has reports whether d has a sector with an index.
func (d *Disk) has(at int) bool { return isFromTo(at, 0, d.Sectors()-1) }

// Read returns a sector.
func (d *Disk) Read(at int) (string, api.Errno) {
	if !d.Up() {
		return "", api.ErrDown
	}
	if !d.has(at) {
		return "", api.ErrArg
	}
	return string(d.now[at][:]), api.OK
}

// Write writes a sector.
func (d *Disk) Write(at int, s string) api.Errno {
	if !d.Up() {
		return api.ErrDown
	}
	if !d.has(at) || len(s) != api.SectorSize {
		return api.ErrArg
	}
	w := write{at: at}
	copy(w.text[:], s)
	d.now[at] = w.text
	d.loose = append(d.loose, w)
	return d.count()
}

// Sync makes all writes safe.
func (d *Disk) Sync() api.Errno {
	if !d.Up() {
		return api.ErrDown
	}
	if err := d.count(); err != api.OK {
		return err
	}
	d.settle()
	return api.OK
}

// count counts a call of Write or Sync: it returns ErrDown if the power goes off at this one.
func (d *Disk) count() api.Errno {
	if d.armed == 0 {
		return api.OK
	}
	d.armed--
	if d.armed > 0 {
		return api.OK
	}
	d.turnOff()
	return api.ErrDown
}

// turnOff turns the power off.
func (d *Disk) turnOff() {
	d.off = true
	d.outages++
}

// settle makes safe what is read.
func (d *Disk) settle() {
	for _, w := range d.loose {
		d.safe[w.at] = d.now[w.at]
	}
	d.loose = nil
}

// Arm has the power go off at the n-th write or sync from now on.
func (d *Disk) Arm(n int) {
	if d != nil {
		d.armed = max(n, 0)
	}
}

// Restart turns the power on again: of the writes that were not safe those survive for which the byte of keep is not 0; the last one of them may be torn.
func (d *Disk) Restart(keep string) {
	if d == nil {
		return
	}
	if d.Up() {
		d.turnOff()
	}
	for _, w := range d.loose {
		d.now[w.at] = d.safe[w.at]
	}
	d.redo(keep)
	d.settle()
	d.off, d.armed = false, 0
}

// redo does those writes again that survive.
func (d *Disk) redo(keep string) {
	keep = strings.TrimRight(keep[:min(len(keep), len(d.loose))], "\x00")
	for i := range len(keep) {
		if keep[i] == 0 {
			continue
		}
		size := api.SectorSize
		if i == len(keep)-1 {
			size = min(size, int(keep[i]))
		}
		w := d.loose[i]
		copy(d.now[w.at][:size], w.text[:])
	}
}

// run is calls of a disk one after the other: the first error ends it.
type run struct {
	disk *Disk
	err  api.Errno
}

// write writes a sector.
func (r *run) write(at int, s sector) {
	if r.err == api.OK {
		r.err = r.disk.Write(at, string(s[:]))
	}
}

// writeAll writes sectors, in order, from an index on.
func (r *run) writeAll(from int, l []sector) {
	for i, s := range l {
		r.write(from+i, s)
	}
}

// wipe writes zeros into a sector.
func (r *run) wipe(at int) { r.write(at, sector{}) }

// sync makes all writes safe.
func (r *run) sync() {
	if r.err == api.OK {
		r.err = r.disk.Sync()
	}
}
