package tests

import (
	"fmt"
	"math"
	"math/rand"
	"slices"
	"testing"

	"loop.example/g00608/impl"
)

// plainAppend is what AppendWrite makes of a disk, told by the disk's sectors alone; next is the tale behind the write.
func plainAppend(d impl.Disk, slot int, next tale) impl.Disk {
	return withSector(plainTorn(d, next), 1-slot, plainSuperText(next.vault.Super))
}

// plainTorn is what a crash leaves that loses the super: the segment lies in a sector that the newest super has not.
func plainTorn(d impl.Disk, next tale) impl.Disk {
	i := len(next.vault.Segs) - 1
	return withSector(d, next.vault.Super.Table[i], plainSegText(next.vault.Segs[i]))
}

func mustAppend(t *testing.T, d impl.Disk, f impl.Frame) impl.Disk {
	t.Helper()
	x, code := impl.AppendWrite(d, f)
	if code != impl.OK {
		t.Fatalf("AppendWrite of %v: code %d", f, code)
	}
	return x
}

func mustTear(t *testing.T, d impl.Disk, f impl.Frame, keeps []bool) impl.Disk {
	t.Helper()
	x, code := impl.AppendTorn(d, f, keeps)
	if code != impl.OK {
		t.Fatalf("AppendTorn of %v: code %d", f, code)
	}
	return x
}

// openTales have room for a write that comes next.
func openTales() []tale {
	low := newTale(impl.Super{Gen: 999998, Base: 5, Marks: marksOf(5, "a")}, plainContent())
	end := newTale(impl.Super{Gen: 2, Base: 999998}, plainContent())
	almost := bareTale()
	for i := range 19 {
		almost = almost.with(63-i, 2*i+2, 7*i, map[int]int{7 - i%8: i})
	}
	return []tale{bareTale(), plainTale(), low, end, almost}
}

func nextFrames(a tale) []impl.Frame {
	next := a.tip() + 1
	return []impl.Frame{
		{Pos: next},
		{Pos: next, Block: 2, Value: 50, Time: 6},
		{Pos: next, Block: 7, Value: 999999, Time: 999999},
		{Pos: next, Block: 5, Value: a.last()[5], Time: 8},
	}
}

func TestAppendWriteByHand(t *testing.T) {
	d, code := impl.FormatVault(plainContent())
	if code != impl.OK {
		t.Fatalf("FormatVault: code %d", code)
	}
	want := copyDisk(d)
	d = mustAppend(t, d, impl.Frame{Pos: 1, Block: 2, Value: 50, Time: 6})
	want.Sure[10] = "000000000001000006000002000050000012" + "345"
	want.Sure[1] = "000002000000000000000000000010|" + "276"
	if !alikeDisk(d, want) {
		t.Errorf("behind a first write the disk is %v, want %v", d, want)
	}
	d = mustAppend(t, d, impl.Frame{Pos: 2, Block: 2, Value: 7, Time: 3})
	want.Sure[11] = "000001000002000006000002000007000050" + "688"
	want.Sure[0] = "000003000000000000000000000010000011|" + "329"
	if !alikeDisk(d, want) {
		t.Errorf("behind a second write the disk is %v, want %v", d, want)
	}
}

// Promise 6: a write that comes next is there then, and all that was ahead of it stays, wherever the image is.
func TestAppendWrite(t *testing.T) {
	for _, a := range openTales() {
		for _, b := range a.vaults() {
			for slot, d := range []impl.Disk{vaultDisk(b.vault), turnedDisk(b.vault)} {
				for _, f := range nextFrames(b) {
					next := b.withWrite(f)
					x := mustAppend(t, d, f)
					if !alikeDisk(x, plainAppend(d, slot, next)) {
						t.Errorf("AppendWrite of %v behind %v in slot %d: another disk", f, b.vault, slot)
					}
					v := mustLoad(t, x)
					if !alikeVault(v, next.vault) {
						t.Errorf("AppendWrite of %v = %v, want %v", f, v, next.vault)
					}
					wantRight(t, next.in(v))
				}
			}
		}
	}
}

// A write's time is not below the last one's.
func TestTimesOfWrites(t *testing.T) {
	a := plainTale() // its last time is 8
	d := vaultDisk(a.vault)
	for _, c := range [][2]int{{0, 8}, {4, 8}, {7, 8}, {8, 8}, {9, 9}, {999999, 999999}} {
		v := mustLoad(t, mustAppend(t, d, impl.Frame{Pos: 11, Time: c[0]}))
		if got := v.Segs[4].Time; got != c[1] {
			t.Errorf("a write at %d behind one at 8 has the time %d, want %d", c[0], got, c[1])
		}
	}
	for _, time := range []int{0, 1, 999999} {
		v := mustLoad(t, mustAppend(t, vaultDisk(bareTale().vault), impl.Frame{Pos: 1, Time: time}))
		if got := v.Segs[0].Time; got != time {
			t.Errorf("a first write at %d has the time %d", time, got)
		}
	}
}

func TestWritesTakeTheFirstFreeSector(t *testing.T) {
	for _, c := range []struct {
		table []int
		want  int
	}{
		{nil, 10}, {[]int{10}, 11}, {[]int{11}, 10}, {[]int{63, 62}, 10}, {[]int{12, 11, 10}, 13}, {[]int{10, 12}, 11}, {sectorsFrom(10, 19), 29}, {sectorsFrom(45, 19), 10},
	} {
		a := bareTale()
		for i, at := range c.table {
			a = a.with(at, i+1, 0, map[int]int{1: i})
		}
		v := mustLoad(t, mustAppend(t, vaultDisk(a.vault), impl.Frame{Pos: a.tip() + 1}))
		if want := append(slices.Clone(c.table), c.want); !slices.Equal(v.Super.Table, want) {
			t.Errorf("a write behind the table %v leads to %v, want %v", c.table, v.Super.Table, want)
		}
	}
}

// Promise 6: a write in whose midst a crash comes is there as a whole or not at all.
func TestAppendTorn(t *testing.T) {
	for _, a := range openTales() {
		for _, b := range a.vaults() {
			for slot, d := range []impl.Disk{vaultDisk(b.vault), turnedDisk(b.vault)} {
				for i, keeps := range keepsLists() {
					f := nextFrames(b)[i%4]
					wantTorn(t, b, d, slot, f, keeps)
				}
			}
		}
	}
}

func wantTorn(t *testing.T, a tale, d impl.Disk, slot int, f impl.Frame, keeps []bool) {
	t.Helper()
	next := a.withWrite(f)
	// Only the super is not sure yet, so the first of the keeps decides alone.
	want, left := plainTorn(d, next), a
	if len(keeps) > 0 && keeps[0] {
		want, left = plainAppend(d, slot, next), next
	}
	x := mustTear(t, d, f, keeps)
	if !alikeDisk(x, want) {
		t.Errorf("AppendTorn of %v behind %v in slot %d with keeps %.10v: another disk", f, a.vault, slot, keeps)
	}
	v := mustLoad(t, x)
	if !alikeVault(v, left.vault) {
		t.Errorf("AppendTorn of %v = %v, want %v", f, v, left.vault)
	}
	wantRight(t, left.in(v))
}

// Behind a crash the write comes once more, or another one does; what the crash left is written over.
func TestWritesBehindATornOne(t *testing.T) {
	for _, a := range openTales() {
		d := vaultDisk(a.vault)
		f := impl.Frame{Pos: a.tip() + 1, Block: 3, Value: 33, Time: 9}
		other := impl.Frame{Pos: a.tip() + 1, Block: 4, Value: 44, Time: 7}
		lost, kept := mustTear(t, d, f, nil), mustTear(t, d, f, []bool{true})
		for _, g := range []impl.Frame{f, other} {
			if x := mustAppend(t, lost, g); !alikeDisk(x, mustAppend(t, d, g)) {
				t.Errorf("a write of %v behind a torn one of %v: another disk", g, f)
			}
			if x, code := impl.AppendWrite(kept, g); code != impl.ErrThere || !alikeDisk(x, kept) {
				t.Errorf("a write of %v behind one of %v that was kept: code %d", g, f, code)
			}
		}
		if again := mustTear(t, lost, f, []bool{false, true}); !alikeDisk(again, lost) {
			t.Errorf("a write of %v that is torn twice: another disk", f)
		}
	}
}

// What was written survives any crash behind it.
func TestACrashBehindAWrite(t *testing.T) {
	for _, a := range openTales() {
		x := mustAppend(t, vaultDisk(a.vault), nextFrames(a)[1])
		for i, keeps := range keepsLists() {
			if y, code := impl.CrashDisk(x, keeps); code != impl.OK || !alikeDisk(y, x) {
				t.Errorf("a crash with keeps %d behind a write: code %d", i, code)
			}
		}
	}
}

// wantAppendCode asks for one code of AppendWrite, and of AppendTorn with keeps of each kind.
func wantAppendCode(t *testing.T, d impl.Disk, f impl.Frame, want int, asItWas bool, what string) {
	t.Helper()
	wanted := impl.Disk{}
	if asItWas {
		wanted = d
	}
	if x, code := impl.AppendWrite(d, f); code != want || !alikeDisk(x, wanted) {
		t.Errorf("AppendWrite of %v, %s: code %d, want %d, as wanted: %t", f, what, code, want, alikeDisk(x, wanted))
	}
	for i, keeps := range keepsLists() {
		if x, code := impl.AppendTorn(d, f, keeps); code != want || !alikeDisk(x, wanted) {
			t.Errorf("AppendTorn of %v with keeps %d, %s: code %d, want %d, as wanted: %t", f, i, what, code, want, alikeDisk(x, wanted))
		}
	}
}

func TestWritesThatDoNotComeNext(t *testing.T) {
	fullGen := plainTale()
	fullGen.vault.Super.Gen = 999999
	both := fullTale()
	both.vault.Super.Gen = 999999
	for _, a := range append(tales(), fullGen, both) {
		next := impl.OK
		if len(a.vault.Segs) == 20 || a.vault.Super.Gen == 999999 {
			next = impl.ErrFull
		}
		disks := []impl.Disk{vaultDisk(a.vault), turnedDisk(a.vault), vaultDisk(a.moving(0, len(a.at)-1, 5))}
		for i, d := range disks {
			what := fmt.Sprintf("disk %d behind %d", i, a.tip())
			for _, pos := range []int{1, a.at[0] - 1, a.at[0], a.at[0] + 1, a.tip() - 1, a.tip()} {
				if pos >= 1 && pos <= a.tip() {
					wantAppendCode(t, d, impl.Frame{Pos: pos, Block: 1, Value: 2, Time: 3}, impl.ErrThere, true, what)
				}
			}
			for _, pos := range []int{a.tip() + 2, a.tip() + 3, 999999} {
				if pos > a.tip()+1 && pos <= 999999 {
					wantAppendCode(t, d, impl.Frame{Pos: pos, Block: 1, Value: 2, Time: 3}, impl.ErrGap, true, what)
				}
			}
			if next != impl.OK {
				wantAppendCode(t, d, impl.Frame{Pos: a.tip() + 1}, next, true, what)
			}
		}
	}
}

// Positions between those that are retained are there too: their writes have been put together.
func TestWritesAtPositionsThatAreNotRetained(t *testing.T) {
	d := vaultDisk(plainTale().vault)
	for pos := 1; pos <= 10; pos++ {
		wantAppendCode(t, d, impl.Frame{Pos: pos}, impl.ErrThere, true, "a position up to the tip")
	}
}

func TestWritesUpToTheLastGen(t *testing.T) {
	for _, slot := range []int{0, 1} {
		a := plainTale()
		a.vault.Super.Gen = 999998
		d := vaultDisk(a.vault)
		if slot == 1 {
			d = turnedDisk(a.vault)
		}
		x := mustAppend(t, d, impl.Frame{Pos: 11})
		if v := mustLoad(t, x); v.Super.Gen != 999999 {
			t.Errorf("a write behind Gen 999998 has Gen %d", v.Super.Gen)
		}
		wantAppendCode(t, x, impl.Frame{Pos: 12}, impl.ErrFull, true, "behind Gen MaxPos")
		wantAppendCode(t, x, impl.Frame{Pos: 11}, impl.ErrThere, true, "behind Gen MaxPos")
		wantAppendCode(t, x, impl.Frame{Pos: 13}, impl.ErrGap, true, "behind Gen MaxPos")
	}
}

func TestWritesUpToMaxSegs(t *testing.T) {
	a := bareTale()
	d := vaultDisk(a.vault)
	for i := range 20 {
		f := impl.Frame{Pos: i + 1, Block: i % 8, Value: 500 + i, Time: 3 * i}
		d, a = mustAppend(t, d, f), a.withWrite(f)
	}
	wantRight(t, a.in(mustLoad(t, d)))
	wantAppendCode(t, d, impl.Frame{Pos: 21}, impl.ErrFull, true, "behind MaxSegs")
	wantAppendCode(t, d, impl.Frame{Pos: 20}, impl.ErrThere, true, "behind MaxSegs")
	wantAppendCode(t, d, impl.Frame{Pos: 22}, impl.ErrGap, true, "behind MaxSegs")
}

func TestWritesOnDamagedDisks(t *testing.T) {
	right := vaultDisk(plainTale().vault)
	damaged := []namedDisk{
		{"a block", withSector(right, 5, "what")},
		{"a segment", withSector(right, 63, "what")},
		{"a segment that is empty", withSector(right, 12, "")},
		{"an image that does not fit", withSector(right, 4, valueText(13))},
	}
	for _, c := range slices.Concat(wrongPlaceVaults(), wrongChainVaults()) {
		if impl.SuperOK(c.vault.Super) && len(c.vault.Segs) == len(c.vault.Super.Table) {
			damaged = append(damaged, namedDisk{c.name, vaultDisk(c.vault)})
		}
	}
	none := []namedDisk{
		{"a new disk", impl.NewDisk()},
		{"no super", withSector(right, 0, "torn")},
		{"no super, and no block", withSector(withSector(right, 0, "torn"), 5, "what")},
	}
	for _, pos := range []int{1, 10, 11, 12, 999999} {
		f := impl.Frame{Pos: pos, Block: 6, Value: 5, Time: 4}
		for _, c := range damaged {
			wantAppendCode(t, c.disk, f, impl.ErrDamaged, true, c.name)
		}
		for _, c := range none {
			wantAppendCode(t, c.disk, f, impl.ErrSuper, true, c.name)
		}
	}
	fullGen := withSector(withSector(right, 0, plainSuperText(withGen(plainTale().vault.Super, 999999))), 5, "what")
	wantAppendCode(t, fullGen, impl.Frame{Pos: 11}, impl.ErrDamaged, true, "a block, and Gen MaxPos")
}

// Something in the cache is not right, even if it changes nothing, and even if without it there would be another code.
func TestWritesOnADiskWithACache(t *testing.T) {
	a := plainTale()
	right := vaultDisk(a.vault)
	disks := []impl.Disk{
		mustWrite(t, right, 60, "x"), mustWrite(t, right, 60, right.Sure[60]), mustWrite(t, right, 0, right.Sure[0]), mustWrite(t, right, 1, ""),
		mustWrite(t, withSector(right, 0, "torn"), 60, "x"), mustWrite(t, withSector(right, 5, "what"), 5, right.Sure[5]),
		mustWrite(t, vaultDisk(fullTale().vault), 63, "x"), unflushedDisk(a.vault), filledDisk(80),
	}
	for _, d := range disks {
		for _, pos := range []int{0, 1, 10, 11, 12, 21} {
			wantAppendCode(t, d, impl.Frame{Pos: pos}, impl.ErrBad, false, "something in the cache")
		}
		flushed := mustFlush(t, d)
		if _, code := impl.AppendWrite(flushed, impl.Frame{Pos: 11}); code == impl.ErrBad {
			t.Error("AppendWrite of a disk that is flushed: ErrBad")
		}
	}
}

func TestWritesThatAreNotRight(t *testing.T) {
	right := vaultDisk(plainTale().vault)
	for _, c := range wrongFrames() {
		for _, d := range []impl.Disk{right, vaultDisk(fullTale().vault), impl.NewDisk(), withSector(right, 5, "what"), {}} {
			wantAppendCode(t, d, c.frame, impl.ErrBad, false, c.name)
		}
		next := c.frame
		next.Pos = 11
		if !impl.FrameOK(next) {
			wantAppendCode(t, right, next, impl.ErrBad, false, c.name+" that comes next")
		}
	}
	for _, c := range wrongDisks() {
		for _, f := range []impl.Frame{{Pos: 1}, {Pos: 11}, {Pos: 999999, Block: 7}} {
			wantAppendCode(t, c.disk, f, impl.ErrBad, false, c.name)
		}
	}
	wantAppendCode(t, withSector(right, 60, string(make([]byte, 301))), impl.Frame{Pos: 11}, impl.ErrBad, false, "a vault, and a sector too long")
}

// Keeps beyond MaxList come ahead of all else.
func TestTornWritesWithTooManyKeeps(t *testing.T) {
	right := vaultDisk(plainTale().vault)
	disks := []impl.Disk{right, vaultDisk(fullTale().vault), withSector(right, 5, "what"), impl.NewDisk(), {}, mustWrite(t, right, 60, "x")}
	for _, d := range disks {
		for _, pos := range []int{math.MinInt, 0, 1, 11, 12, math.MaxInt} {
			for _, n := range []int{4097, 65537} {
				if x, code := impl.AppendTorn(d, impl.Frame{Pos: pos}, make([]bool, n)); code != impl.ErrLong || !zeroDisk(x) {
					t.Errorf("AppendTorn at %d with %d keeps: code %d, want ErrLong alone", pos, n, code)
				}
			}
		}
	}
}

// Promise 6, write by write: behind each one, torn or not, all that was ahead of it is as it was.
func TestRunsOfWrites(t *testing.T) {
	r := rand.New(rand.NewSource(23))
	for range 150 {
		a := anyTale(r).anyMove(r)
		d, slot := vaultDisk(a.vault), 0
		for range 25 {
			f := anyFrame(r)
			f.Pos = a.tip() + 1
			if len(a.vault.Segs) == 20 {
				wantAppendCode(t, d, f, impl.ErrFull, true, "a run")
				break
			}
			next := a.withWrite(f)
			keeps := keepsLists()[r.Intn(13)]
			if r.Intn(2) == 0 {
				wantTorn(t, a, d, slot, f, keeps)
				d = mustTear(t, d, f, keeps)
				if len(keeps) > 0 && keeps[0] {
					a, slot = next, 1-slot
				}
				continue
			}
			x := mustAppend(t, d, f)
			if !alikeDisk(x, plainAppend(d, slot, next)) {
				t.Fatalf("AppendWrite of %v behind %v: another disk", f, a.vault)
			}
			d, a, slot = x, next, 1-slot
			wantRight(t, a.in(mustLoad(t, d)))
		}
	}
}
