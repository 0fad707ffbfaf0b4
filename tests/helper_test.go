package tests

import (
	"slices"
	"strings"
	"testing"

	"loop.example/g00608/impl"
)

const guardText = "behind the end"

var guardWrite = impl.Write{At: 7, Data: guardText}

// guarded is a list with room behind its end, where guard stands, so that a write there is seen.
func guarded[T any](list []T, guard T) []T {
	all := append(slices.Clone(list), guard, guard, guard)
	return all[: len(list) : len(list)+3]
}

func guardedDisk(d impl.Disk) impl.Disk {
	return impl.Disk{Sure: guarded(d.Sure, guardText), Cache: guarded(d.Cache, guardWrite)}
}

func copyDisk(d impl.Disk) impl.Disk {
	return impl.Disk{Sure: slices.Clone(d.Sure), Cache: slices.Clone(d.Cache)}
}

func alikeDisk(a, b impl.Disk) bool {
	return slices.Equal(a.Sure, b.Sure) && slices.Equal(a.Cache, b.Cache)
}

func zeroDisk(d impl.Disk) bool {
	return len(d.Sure) == 0 && len(d.Cache) == 0
}

// scribble overwrites a list and all the room behind its end.
func scribble[T any](list []T, v T) {
	all := list[:cap(list)]
	for i := range all {
		all[i] = v
	}
}

func scribbleDisk(d impl.Disk) {
	scribble(d.Sure, "scribbled")
	scribble(d.Cache, impl.Write{At: 63, Data: "scribbled"})
}

func wholeList[T comparable](list []T, want []T, guard T) bool {
	if !slices.Equal(list, want) {
		return false
	}
	for _, v := range list[len(list):cap(list)] {
		if v != guard {
			return false
		}
	}
	return true
}

// wholeDisk tells whether a guarded disk, with what stands behind its ends, is as it was made of want.
func wholeDisk(d, want impl.Disk) bool {
	return wholeList(d.Sure, want.Sure, guardText) && wholeList(d.Cache, want.Cache, guardWrite)
}

func filledDisk(writes int) impl.Disk {
	d := impl.Disk{Sure: make([]string, 64)}
	for i := range d.Sure {
		d.Sure[i] = strings.Repeat(string(rune('a'+i%26)), i)
	}
	for i := range writes {
		d.Cache = append(d.Cache, impl.Write{At: (i * 5) % 64, Data: strings.Repeat("w", i)})
	}
	return d
}

func mustWrite(t *testing.T, d impl.Disk, at int, text string) impl.Disk {
	t.Helper()
	x, code := impl.WriteSector(d, at, text)
	if code != impl.OK {
		t.Fatalf("WriteSector at %d: code %d", at, code)
	}
	return x
}

func mustFlush(t *testing.T, d impl.Disk) impl.Disk {
	t.Helper()
	x, code := impl.FlushDisk(d)
	if code != impl.OK {
		t.Fatalf("FlushDisk: code %d", code)
	}
	return x
}

func mustRead(t *testing.T, d impl.Disk, at int, want string) {
	t.Helper()
	if got, code := impl.ReadSector(d, at); code != impl.OK || got != want {
		t.Errorf("ReadSector at %d = %q, %d, want %q", at, got, code, want)
	}
}

type namedDisk struct {
	name string
	disk impl.Disk
}

func rightDisks() []namedDisk {
	over := strings.Repeat("x", 300)
	sure := slices.Repeat([]string{over}, 64)
	return []namedDisk{
		{"new", impl.Disk{Sure: make([]string, 64)}},
		{"new with an empty cache", impl.Disk{Sure: make([]string, 64), Cache: []impl.Write{}}},
		{"one write", filledDisk(1)},
		{"some writes", filledDisk(12)},
		{"one short of full", filledDisk(79)},
		{"full", filledDisk(80)},
		{"sectors full of bytes", impl.Disk{Sure: sure, Cache: slices.Repeat([]impl.Write{{At: 63, Data: over}}, 80)}},
	}
}

func wrongDisks() []namedDisk {
	over := strings.Repeat("x", 301)
	sure := make([]string, 64)
	firstOver, lastOver := slices.Clone(sure), slices.Clone(sure)
	firstOver[0], lastOver[63] = over, over
	return []namedDisk{
		{"zero", impl.Disk{}},
		{"a sector short", impl.Disk{Sure: make([]string, 63)}},
		{"a sector over", impl.Disk{Sure: make([]string, 65)}},
		{"sectors beyond MaxList", impl.Disk{Sure: make([]string, 4097)}},
		{"no sector but a write", impl.Disk{Cache: []impl.Write{{}}}},
		{"first sector too long", impl.Disk{Sure: firstOver}},
		{"last sector too long", impl.Disk{Sure: lastOver}},
		{"sector beyond MaxText", impl.Disk{Sure: append(make([]string, 63), strings.Repeat("x", 65537))}},
		{"81 writes", impl.Disk{Sure: sure, Cache: make([]impl.Write, 81)}},
		{"writes beyond MaxList", impl.Disk{Sure: sure, Cache: make([]impl.Write, 4097)}},
		{"write at -1", impl.Disk{Sure: sure, Cache: []impl.Write{{At: -1}}}},
		{"write at 64", impl.Disk{Sure: sure, Cache: []impl.Write{{At: 64}}}},
		{"last write far out", impl.Disk{Sure: sure, Cache: []impl.Write{{}, {At: -1 << 63}}}},
		{"write too long", impl.Disk{Sure: sure, Cache: []impl.Write{{}, {}, {At: 2, Data: over}}}},
	}
}
