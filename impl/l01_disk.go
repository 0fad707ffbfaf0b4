package impl

import "slices"

const (
	Sectors  = 64
	MaxBytes = 300
	MaxCache = 80
)

// Write is a sector's new text that is not flushed.
type Write struct {
	At   int
	Data string
}

// Disk has the flushed text of each sector, and the writes that are not flushed, in their order.
type Disk struct {
	Sure  []string
	Cache []Write
}

// NewDisk answers a disk of empty texts.
func NewDisk() Disk {
	return Disk{Sure: make([]string, Sectors)}
}

// DiskOK tells whether d keeps to the bounds of a disk.
func DiskOK(d Disk) bool {
	return d.isRight()
}

// ReadSector answers the newest write at a sector, flushed or not.
func ReadSector(d Disk, at int) (string, int) {
	if !d.isRight() {
		return "", ErrBad
	}
	if !isSector(at) {
		return "", ErrRange
	}
	return d.newest(at), OK
}

// WriteSector puts t behind the writes that are not flushed.
func WriteSector(d Disk, at int, t string) (Disk, int) {
	if len(t) > MaxText {
		return Disk{}, ErrLong
	}
	if !d.isRight() {
		return Disk{}, ErrBad
	}
	if !isSector(at) {
		return Disk{}, ErrRange
	}
	if len(t) > MaxBytes {
		return d.copied(), ErrSize
	}
	if len(d.Cache) == MaxCache {
		return d.copied(), ErrFull
	}
	return d.written(at, t), OK
}

// FlushDisk makes all writes sure.
func FlushDisk(d Disk) (Disk, int) {
	if !d.isRight() {
		return Disk{}, ErrBad
	}
	return d.flushed(), OK
}

// CrashDisk makes those writes sure that are kept; the others are gone.
func CrashDisk(d Disk, keeps []bool) (Disk, int) {
	if len(keeps) > MaxList {
		return Disk{}, ErrLong
	}
	if !d.isRight() {
		return Disk{}, ErrBad
	}
	if len(keeps) == 0 {
		return d.settled([]bool{false}), OK
	}
	return d.settled(keeps), OK
}

// SameDisk tells whether all of both is alike; neither needs to be right.
func SameDisk(a, b Disk) bool {
	return slices.Equal(a.Sure, b.Sure) && slices.Equal(a.Cache, b.Cache)
}

func isSector(at int) bool {
	return at >= 0 && at < Sectors
}

func (w Write) isRight() bool {
	return isSector(w.At) && len(w.Data) <= MaxBytes
}

func (d Disk) isRight() bool {
	if len(d.Sure) != Sectors || len(d.Cache) > MaxCache {
		return false
	}
	for _, t := range d.Sure {
		if len(t) > MaxBytes {
			return false
		}
	}
	for _, w := range d.Cache {
		if !w.isRight() {
			return false
		}
	}
	return true
}

func (d Disk) newest(at int) string {
	for i := len(d.Cache) - 1; i >= 0; i-- {
		if d.Cache[i].At == at {
			return d.Cache[i].Data
		}
	}
	return d.Sure[at]
}

func (d Disk) copied() Disk {
	return Disk{Sure: copyList(d.Sure), Cache: copyList(d.Cache)}
}

// written fills a list of its own: an append to the given one could write behind its end.
func (d Disk) written(at int, t string) Disk {
	cache := make([]Write, len(d.Cache)+1)
	copy(cache, d.Cache)
	cache[len(d.Cache)] = Write{At: at, Data: t}
	return Disk{Sure: copyList(d.Sure), Cache: cache}
}

func (d Disk) flushed() Disk {
	return d.settled([]bool{true})
}

// settled goes round keeps write by write, not sector by sector: of two writes to one sector the older one may be all that stays.
func (d Disk) settled(keeps []bool) Disk {
	sure := copyList(d.Sure)
	for i, w := range d.Cache {
		if keeps[i%len(keeps)] {
			sure[w.At] = w.Data
		}
	}
	return Disk{Sure: sure}
}
