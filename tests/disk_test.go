package tests

import (
	"math"
	"math/rand"
	"slices"
	"strconv"
	"strings"
	"testing"

	"loop.example/g00608/impl"
)

func TestNewDisk(t *testing.T) {
	d := impl.NewDisk()
	if len(d.Sure) != 64 || len(d.Cache) != 0 || !impl.DiskOK(d) {
		t.Fatalf("NewDisk has %d sectors and %d writes", len(d.Sure), len(d.Cache))
	}
	for at := range 64 {
		mustRead(t, d, at, "")
	}
}

func TestDiskOK(t *testing.T) {
	for _, c := range rightDisks() {
		if !impl.DiskOK(c.disk) {
			t.Errorf("DiskOK of %q is false", c.name)
		}
	}
	for _, c := range wrongDisks() {
		if impl.DiskOK(c.disk) {
			t.Errorf("DiskOK of %q is true", c.name)
		}
	}
}

func TestReadSectorAnswersTheNewest(t *testing.T) {
	d := mustFlush(t, mustWrite(t, impl.NewDisk(), 9, "old"))
	mustRead(t, d, 9, "old")
	d = mustWrite(t, d, 9, "newer")
	d = mustWrite(t, d, 10, "other")
	mustRead(t, d, 9, "newer")
	d = mustWrite(t, d, 9, "")
	mustRead(t, d, 9, "")
	mustRead(t, d, 10, "other")
	mustRead(t, d, 8, "")
	mustRead(t, mustWrite(t, d, 0, "first"), 0, "first")
	mustRead(t, mustWrite(t, d, 63, "last"), 63, "last")
}

func TestWriteSectorAddsBehind(t *testing.T) {
	d := impl.NewDisk()
	var want []impl.Write
	for i := range 80 {
		text := "\x00\xff" + strconv.Itoa(i)
		d = mustWrite(t, d, (i*7)%64, text)
		want = append(want, impl.Write{At: (i * 7) % 64, Data: text})
		if !slices.Equal(d.Cache, want) || !slices.Equal(d.Sure, make([]string, 64)) {
			t.Fatalf("after %d writes the disk is not what was written", i+1)
		}
	}
	if x, code := impl.WriteSector(d, 0, "more"); code != impl.ErrFull || !alikeDisk(x, d) {
		t.Errorf("write 81: code %d", code)
	}
}

func TestTextsOfAnyBytesAreKept(t *testing.T) {
	all := make([]byte, 300)
	for i := range all {
		all[i] = byte(i)
	}
	d := mustWrite(t, impl.NewDisk(), 63, string(all))
	mustRead(t, d, 63, string(all))
	mustRead(t, mustFlush(t, d), 63, string(all))
}

// codeOfWrite is the order of WriteSector's codes as chapters 1 and 2 tell it.
func codeOfWrite(right bool, cached, at, length int) (code int, asItWas bool) {
	switch {
	case length > 65536:
		return impl.ErrLong, false
	case !right:
		return impl.ErrBad, false
	case at < 0 || at > 63:
		return impl.ErrRange, false
	case length > 300:
		return impl.ErrSize, true
	case cached >= 80:
		return impl.ErrFull, true
	}
	return impl.OK, false
}

func TestWriteSectorCodes(t *testing.T) {
	check := func(c namedDisk, right bool) {
		for _, at := range []int{math.MinInt, -1, 0, 1, 62, 63, 64, 65, 4097, math.MaxInt} {
			for _, n := range []int{0, 1, 299, 300, 301, 65535, 65536, 65537, 200000} {
				code, asItWas := codeOfWrite(right, len(c.disk.Cache), at, n)
				text := strings.Repeat("t", n)
				want := impl.Disk{}
				if asItWas {
					want = copyDisk(c.disk)
				} else if code == impl.OK {
					want = copyDisk(c.disk)
					want.Cache = append(want.Cache, impl.Write{At: at, Data: text})
				}
				x, got := impl.WriteSector(c.disk, at, text)
				if got != code || !alikeDisk(x, want) {
					t.Errorf("WriteSector of %q at %d of %d bytes: code %d, want %d, as told %v", c.name, at, n, got, code, alikeDisk(x, want))
				}
			}
		}
	}
	for _, c := range rightDisks() {
		check(c, true)
	}
	for _, c := range wrongDisks() {
		check(c, false)
	}
}

func TestReadSectorCodes(t *testing.T) {
	for _, at := range []int{math.MinInt, -1, 64, 65, math.MaxInt} {
		for _, c := range rightDisks() {
			if s, code := impl.ReadSector(c.disk, at); s != "" || code != impl.ErrRange {
				t.Errorf("ReadSector of %q at %d = %q, %d", c.name, at, s, code)
			}
		}
	}
	for _, at := range []int{math.MinInt, -1, 0, 2, 63, 64, math.MaxInt} {
		for _, c := range wrongDisks() {
			if s, code := impl.ReadSector(c.disk, at); s != "" || code != impl.ErrBad {
				t.Errorf("ReadSector of %q at %d = %q, %d", c.name, at, s, code)
			}
		}
	}
}

func TestFlushDisk(t *testing.T) {
	for _, c := range rightDisks() {
		want := slices.Clone(c.disk.Sure)
		for _, w := range c.disk.Cache {
			want[w.At] = w.Data
		}
		x, code := impl.FlushDisk(c.disk)
		if code != impl.OK || len(x.Cache) != 0 || !slices.Equal(x.Sure, want) {
			t.Errorf("FlushDisk of %q: code %d", c.name, code)
		}
	}
	for _, c := range wrongDisks() {
		if x, code := impl.FlushDisk(c.disk); code != impl.ErrBad || !zeroDisk(x) {
			t.Errorf("FlushDisk of %q: code %d", c.name, code)
		}
	}
}

func keepsLists() [][]bool {
	long := make([]bool, 4096)
	for i := range long {
		long[i] = i%7 < 3
	}
	return [][]bool{
		nil, {}, {false}, {true}, {true, false}, {false, true}, {false, false, true},
		{true, true, false, false, true}, long[:79], long[:80], long[:81], long[:4095], long,
	}
}

func TestCrashDiskKeeps(t *testing.T) {
	for _, c := range rightDisks() {
		for i, keeps := range keepsLists() {
			want := slices.Clone(c.disk.Sure)
			turn := 0
			for _, w := range c.disk.Cache {
				if len(keeps) > 0 && keeps[turn] {
					want[w.At] = w.Data
				}
				if turn++; turn >= len(keeps) {
					turn = 0
				}
			}
			x, code := impl.CrashDisk(c.disk, keeps)
			if code != impl.OK || len(x.Cache) != 0 || !slices.Equal(x.Sure, want) {
				t.Errorf("CrashDisk of %q with keeps %d: code %d", c.name, i, code)
			}
		}
	}
}

func TestCrashDiskCodes(t *testing.T) {
	for _, c := range wrongDisks() {
		for i, keeps := range keepsLists() {
			if x, code := impl.CrashDisk(c.disk, keeps); code != impl.ErrBad || !zeroDisk(x) {
				t.Errorf("CrashDisk of %q with keeps %d: code %d", c.name, i, code)
			}
		}
	}
	for _, n := range []int{4097, 65537} {
		for _, c := range append(rightDisks(), wrongDisks()...) {
			if x, code := impl.CrashDisk(c.disk, make([]bool, n)); code != impl.ErrLong || !zeroDisk(x) {
				t.Errorf("CrashDisk of %q with %d keeps: code %d", c.name, n, code)
			}
		}
	}
}

// An older write that is kept must not come back over a newer one, nor be lost with it.
func TestCrashDiskOfOneSector(t *testing.T) {
	d := mustFlush(t, mustWrite(t, impl.NewDisk(), 5, "flushed"))
	for _, text := range []string{"one", "two", "three"} {
		d = mustWrite(t, d, 5, text)
	}
	for _, c := range []struct {
		keeps []bool
		want  string
	}{
		{[]bool{false, false, false}, "flushed"},
		{[]bool{true, false, false}, "one"},
		{[]bool{false, true, false}, "two"},
		{[]bool{true, true, false}, "two"},
		{[]bool{false, false, true}, "three"},
		{[]bool{true, false, true}, "three"},
		{[]bool{true, true, true}, "three"},
	} {
		x, code := impl.CrashDisk(d, c.keeps)
		if code != impl.OK {
			t.Errorf("CrashDisk with %v: code %d", c.keeps, code)
		}
		mustRead(t, x, 5, c.want)
	}
}

// Promise 2: what is flushed survives any crash, and what stays of the rest is just what is kept.
func TestFlushedSurvivesACrash(t *testing.T) {
	for _, c := range rightDisks() {
		flushed := mustFlush(t, c.disk)
		for i, keeps := range keepsLists() {
			x, code := impl.CrashDisk(flushed, keeps)
			if code != impl.OK || !alikeDisk(x, flushed) {
				t.Errorf("%q flushed, then a crash with keeps %d: code %d", c.name, i, code)
			}
		}
	}
}

// plainDisk is a disk told in another way, to hold the program's against.
type plainDisk struct {
	sure    map[int]string
	pending []impl.Write
}

func (p *plainDisk) crash(keeps []bool) {
	for i, w := range p.pending {
		if len(keeps) > 0 && keeps[i%len(keeps)] {
			p.sure[w.At] = w.Data
		}
	}
	p.pending = nil
}

func (p *plainDisk) read(at int) string {
	text := p.sure[at]
	for _, w := range p.pending {
		if w.At == at {
			text = w.Data
		}
	}
	return text
}

func TestRunsOfCalls(t *testing.T) {
	r := rand.New(rand.NewSource(1))
	for run := range 60 {
		d, p := impl.NewDisk(), &plainDisk{sure: map[int]string{}}
		for range 200 {
			code := impl.OK
			switch k := r.Intn(60); {
			case k == 0:
				d, code = impl.FlushDisk(d)
				p.crash([]bool{true})
			case k == 1:
				keeps := make([]bool, r.Intn(9))
				for i := range keeps {
					keeps[i] = r.Intn(2) == 0
				}
				d, code = impl.CrashDisk(d, keeps)
				p.crash(keeps)
			case len(p.pending) < 80:
				w := impl.Write{At: r.Intn(64), Data: strings.Repeat("r", r.Intn(301))}
				d, code = impl.WriteSector(d, w.At, w.Data)
				p.pending = append(p.pending, w)
			}
			if code != impl.OK || !impl.DiskOK(d) || !slices.Equal(d.Cache, p.pending) {
				t.Fatalf("run %d: code %d", run, code)
			}
			for at := range 64 {
				mustRead(t, d, at, p.read(at))
			}
		}
	}
}

func TestSameDisk(t *testing.T) {
	all := append(rightDisks(), wrongDisks()...)
	for i, a := range all {
		for j, b := range all {
			want := alikeDisk(a.disk, b.disk)
			if got := impl.SameDisk(a.disk, copyDisk(b.disk)); got != want || i == j && !got {
				t.Errorf("SameDisk of %q and %q is %v", a.name, b.name, got)
			}
		}
	}
}

func TestSameDiskSeesEachPart(t *testing.T) {
	a := filledDisk(6)
	for at := range 64 {
		b := copyDisk(a)
		b.Sure[at] += "x"
		if impl.SameDisk(a, b) || impl.SameDisk(b, a) {
			t.Errorf("SameDisk with another sector %d", at)
		}
	}
	for i := range a.Cache {
		b, c := copyDisk(a), copyDisk(a)
		b.Cache[i].At++
		c.Cache[i].Data += "x"
		if impl.SameDisk(a, b) || impl.SameDisk(a, c) {
			t.Errorf("SameDisk with another write %d", i)
		}
	}
	short, turned := copyDisk(a), copyDisk(a)
	short.Cache = short.Cache[:5]
	slices.Reverse(turned.Cache)
	if impl.SameDisk(a, short) || impl.SameDisk(short, a) || impl.SameDisk(a, turned) {
		t.Error("SameDisk with other writes")
	}
	// A disk that reads alike but has something in its cache is another one.
	if impl.SameDisk(a, mustFlush(t, a)) {
		t.Error("SameDisk of a disk and the same one flushed")
	}
	if !impl.SameDisk(impl.Disk{Sure: []string{}}, impl.Disk{Cache: []impl.Write{}}) {
		t.Error("SameDisk tells nil and an empty list apart")
	}
}
