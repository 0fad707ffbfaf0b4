package tests

import (
	"fmt"
	"math"
	"math/rand"
	"slices"
	"testing"

	"loop.example/g00608/impl"
)

func TestMarksByHand(t *testing.T) {
	d, code := impl.FormatVault(plainContent())
	if code != impl.OK {
		t.Fatalf("FormatVault: code %d", code)
	}
	d = mustAppend(t, d, impl.Frame{Pos: 1, Block: 2, Value: 50, Time: 6})
	want := copyDisk(d)
	for i, c := range []struct {
		do   func() impl.Disk
		text string
	}{
		{func() impl.Disk { return mustMark(t, d, impl.Mark{Name: "noon", Pos: 1}) }, "000003000000000000000000000010|noon=1"},
		{func() impl.Disk { return mustMark(t, d, impl.Mark{Name: "a", Pos: 0}) }, "000004000000000000000000000010|a=0,noon=1"},
		{func() impl.Disk { return mustMark(t, d, impl.Mark{Name: "zz", Pos: 1}) }, "000005000000000000000000000010|a=0,noon=1,zz=1"},
		{func() impl.Disk { return mustMark(t, d, impl.Mark{Name: "no", Pos: 0}) }, "000006000000000000000000000010|a=0,no=0,noon=1,zz=1"},
		{func() impl.Disk { return mustUnmark(t, d, "noon") }, "000007000000000000000000000010|a=0,no=0,zz=1"},
		{func() impl.Disk { return mustUnmark(t, d, "a") }, "000008000000000000000000000010|no=0,zz=1"},
		{func() impl.Disk { return mustUnmark(t, d, "zz") }, "000009000000000000000000000010|no=0"},
		{func() impl.Disk { return mustUnmark(t, d, "no") }, "000010000000000000000000000010|"},
	} {
		d = c.do()
		want.Sure[i%2] = seal(c.text)
		if !alikeDisk(d, want) {
			t.Fatalf("behind change %d of the marks the disk is %v, want %v", i, d, want)
		}
	}
}

// wantMarked asks that a disk has what a change of the marks makes of another one: one sector of it is another, and all that was retained stays.
func wantMarked(t *testing.T, x, d impl.Disk, slot int, next tale, what string) {
	t.Helper()
	if !alikeDisk(x, withSector(d, 1-slot, plainSuperText(next.vault.Super))) {
		t.Errorf("%s in slot %d: another disk", what, slot)
	}
	v := mustLoad(t, x)
	if !alikeVault(v, next.vault) {
		t.Errorf("%s = %v, want %v", what, v, next.vault)
	}
	wantRight(t, next.in(v))
	for _, m := range next.vault.Super.Marks {
		wantMark(t, v, m)
	}
}

// Promise 7: a position that is marked is found by its name, and so are those that were marked ahead, wherever the image is.
func TestSetMark(t *testing.T) {
	for _, a := range markTales() {
		if len(a.vault.Super.Marks) == 4 {
			continue
		}
		for i, b := range a.vaults() {
			m := impl.Mark{Name: newNames()[i%9], Pos: b.at[i%len(b.at)]}
			for slot, d := range []impl.Disk{vaultDisk(b.vault), turnedDisk(b.vault)} {
				next := b.remarked(plainSet(b.vault.Super.Marks, m))
				wantMarked(t, mustMark(t, d, m), d, slot, next, fmt.Sprintf("SetMark of %v", m))
			}
		}
	}
}

func TestSetMarkOfEachNameAndPosition(t *testing.T) {
	for _, a := range markTales() {
		d := vaultDisk(a.vault)
		for _, name := range newNames() {
			for _, n := range a.at {
				if m := (impl.Mark{Name: name, Pos: n}); len(a.vault.Super.Marks) < 4 {
					next := a.remarked(plainSet(a.vault.Super.Marks, m))
					wantMarked(t, mustMark(t, d, m), d, 0, next, fmt.Sprintf("SetMark of %v", m))
				} else {
					wantNoSet(t, d, impl.Mark{Name: name, Pos: n}, impl.ErrFull, true, "a fifth mark")
				}
			}
		}
	}
}

func TestDropMark(t *testing.T) {
	for _, a := range markTales() {
		for _, b := range a.vaults() {
			for slot, d := range []impl.Disk{vaultDisk(b.vault), turnedDisk(b.vault)} {
				for _, m := range b.vault.Super.Marks {
					x := mustUnmark(t, d, m.Name)
					next := b.remarked(plainDrop(b.vault.Super.Marks, m.Name))
					wantMarked(t, x, d, slot, next, fmt.Sprintf("DropMark of %v", m))
					wantNoMark(t, mustLoad(t, x), m.Name, impl.ErrNone)
					wantRetained(t, mustLoad(t, x), m.Pos, true)
				}
			}
		}
	}
}

func TestDropMarkOfNoMark(t *testing.T) {
	for _, a := range markTales() {
		d := vaultDisk(a.vault)
		for _, name := range slices.Concat(newNames(), wrongMarkNames()) {
			wantNoDrop(t, d, name, impl.ErrNone, true, "no such mark")
		}
		for _, m := range a.vault.Super.Marks {
			wantNoDrop(t, mustUnmark(t, d, m.Name), m.Name, impl.ErrNone, true, "a mark that is gone")
		}
	}
}

func TestSetMarkOfWrongNames(t *testing.T) {
	for _, a := range markTales() {
		d := vaultDisk(a.vault)
		for _, name := range wrongMarkNames() {
			wantNoSet(t, d, impl.Mark{Name: name, Pos: a.tip()}, impl.ErrForm, true, "no name of a mark")
			wantNoSet(t, d, impl.Mark{Name: name, Pos: -1}, impl.ErrForm, true, "no name of a mark, and no position")
		}
	}
}

func TestSetMarkOfOtherPositions(t *testing.T) {
	for _, a := range markTales() {
		for _, d := range []impl.Disk{vaultDisk(a.vault), turnedDisk(a.moving(0, len(a.at)-1, 5))} {
			for _, n := range append(nearNumbers(a.at), oddNumbers()...) {
				if !slices.Contains(a.at, n) {
					wantNoSet(t, d, impl.Mark{Name: "x", Pos: n}, impl.ErrRetained, true, "not retained")
				}
			}
		}
	}
}

// A name that is there is there at any position, at its own one too.
func TestSetMarkOfNamesThatAreThere(t *testing.T) {
	for _, a := range markTales() {
		d := vaultDisk(a.vault)
		for _, m := range a.vault.Super.Marks {
			for _, n := range a.at {
				wantNoSet(t, d, impl.Mark{Name: m.Name, Pos: n}, impl.ErrThere, true, "there already")
			}
		}
	}
}

// markCase has an argument of each kind; name and disk tell what is wrong with them.
type markCase struct {
	name, disk      string
	retained        bool
	four, lastOfGen bool
}

func markCases() []markCase {
	var out []markCase
	for _, name := range []string{"new", "there", "form", "long"} {
		for _, disk := range []string{"", "cache", "wrong", "super", "damaged", "damaged segment"} {
			for i := range 8 {
				out = append(out, markCase{name, disk, i&1 == 0, i&2 == 0, i&4 == 0})
			}
		}
	}
	return out
}

func (c markCase) args(t *testing.T) (impl.Disk, impl.Mark) {
	t.Helper()
	a := plainTale().marked(marksOf(3, "a", "m", "n")...)
	if c.four {
		a = a.marked(marksOf(3, "a", "m", "n", "z")...)
	}
	if c.lastOfGen {
		a = a.withGen(999999)
	}
	d := turnedDisk(a.vault)
	switch c.disk {
	case "cache":
		d = mustWrite(t, d, 60, d.Sure[60])
	case "wrong":
		d.Sure = d.Sure[:63]
	case "super":
		d.Sure[0], d.Sure[1] = "what", "what"
	case "damaged":
		d.Sure[5] = "what"
	case "damaged segment":
		d.Sure[40] = "what"
	}
	m := impl.Mark{Name: map[string]string{"new": "b", "there": "m", "form": "M", "long": longNames()[0]}[c.name], Pos: 3}
	if !c.retained {
		m.Pos = 4
	}
	return d, m
}

// diskCode is what is found ahead of a name's form, and whether the disk is as it was then.
func (c markCase) diskCode() (int, bool) {
	switch {
	case c.name == "long":
		return impl.ErrLong, false
	case c.disk == "cache" || c.disk == "wrong":
		return impl.ErrBad, false
	case c.disk == "super":
		return impl.ErrSuper, true
	case c.disk != "":
		return impl.ErrDamaged, true
	}
	return impl.OK, false
}

// Which codes come ahead of which: each argument is right or wrong with each of the others.
func TestCodesOfSetMark(t *testing.T) {
	for _, c := range markCases() {
		want, asItWas := c.diskCode()
		if want == impl.OK {
			asItWas = true
			switch {
			case c.name == "form":
				want = impl.ErrForm
			case !c.retained:
				want = impl.ErrRetained
			case c.name == "there":
				want = impl.ErrThere
			case c.four || c.lastOfGen:
				want = impl.ErrFull
			default:
				continue
			}
		}
		d, m := c.args(t)
		wantNoSet(t, d, m, want, asItWas, fmt.Sprintf("%+v", c))
	}
}

func TestCodesOfDropMark(t *testing.T) {
	for _, c := range markCases() {
		want, asItWas := c.diskCode()
		if want == impl.OK {
			asItWas = true
			switch {
			case c.name != "there":
				want = impl.ErrNone
			case c.lastOfGen:
				want = impl.ErrFull
			default:
				continue
			}
		}
		d, m := c.args(t)
		wantNoDrop(t, d, m.Name, want, asItWas, fmt.Sprintf("%+v", c))
	}
}

// wantAllMarkCodes asks for one code of both calls, whatever the name and the position.
func wantAllMarkCodes(t *testing.T, d impl.Disk, want int, asItWas bool, what string) {
	t.Helper()
	for _, name := range []string{"a", "noon", "x", "", "A", "toolong"} {
		wantNoDrop(t, d, name, want, asItWas, what)
		for _, n := range []int{0, 2, 3, 4, 10, 999999, -1, math.MaxInt} {
			wantNoSet(t, d, impl.Mark{Name: name, Pos: n}, want, asItWas, what)
		}
	}
}

func TestMarksOnWrongDisks(t *testing.T) {
	right := vaultDisk(plainTale().vault)
	for _, c := range wrongDisks() {
		wantAllMarkCodes(t, c.disk, impl.ErrBad, false, c.name)
	}
	for _, d := range []impl.Disk{
		withSector(right, 60, string(make([]byte, 301))), mustWrite(t, right, 60, "x"), mustWrite(t, right, 0, right.Sure[0]), mustWrite(t, right, 1, ""),
		mustWrite(t, withSector(right, 0, "torn"), 60, "x"), mustWrite(t, withSector(right, 5, "what"), 5, right.Sure[5]), unflushedDisk(plainTale().vault), filledDisk(80),
	} {
		wantAllMarkCodes(t, d, impl.ErrBad, false, "a sector too long, or something in the cache")
	}
}

func TestMarksOnDamagedDisks(t *testing.T) {
	right := vaultDisk(plainTale().vault)
	for _, c := range slices.Concat(wrongPlaceVaults(), wrongChainVaults()) {
		if impl.SuperOK(c.vault.Super) && len(c.vault.Segs) == len(c.vault.Super.Table) {
			wantAllMarkCodes(t, vaultDisk(c.vault), impl.ErrDamaged, true, c.name)
		}
	}
	for _, at := range []int{2, 9, 63, 10, 40, 12} {
		wantAllMarkCodes(t, withSector(right, at, "what"), impl.ErrDamaged, true, "a damaged sector")
	}
	wantAllMarkCodes(t, withSector(right, 4, valueText(13)), impl.ErrDamaged, true, "an image that does not fit")
	for _, text := range noSuperTexts() {
		wantAllMarkCodes(t, withSector(right, 0, text), impl.ErrSuper, true, "no super")
		wantAllMarkCodes(t, withSector(withSector(right, 0, text), 5, "what"), impl.ErrSuper, true, "no super, and no block")
	}
	wantAllMarkCodes(t, impl.NewDisk(), impl.ErrSuper, true, "a new disk")
}

// A name beyond MaxText comes ahead of all else, and nothing is as it was.
func TestMarksOfLongNames(t *testing.T) {
	right := vaultDisk(plainTale().vault)
	for _, name := range longNames() {
		for _, d := range []impl.Disk{right, withSector(right, 5, "what"), impl.NewDisk(), {}, mustWrite(t, right, 60, "x"), vaultDisk(fullTale().withGen(999999).vault)} {
			wantNoDrop(t, d, name, impl.ErrLong, false, "a long name")
			for _, n := range []int{3, 4, -1} {
				wantNoSet(t, d, impl.Mark{Name: name, Pos: n}, impl.ErrLong, false, "a long name")
			}
		}
	}
}

func TestMarksUpToTheLastGen(t *testing.T) {
	a := plainTale().withGen(999998)
	for slot, d := range []impl.Disk{vaultDisk(a.vault), turnedDisk(a.vault)} {
		m := impl.Mark{Name: "x", Pos: 9}
		x := mustMark(t, d, m)
		wantMarked(t, x, d, slot, a.remarked(plainSet(a.vault.Super.Marks, m)), "SetMark with the last Gen")
		wantNoSet(t, x, impl.Mark{Name: "y", Pos: 9}, impl.ErrFull, true, "behind the last Gen")
		wantNoDrop(t, x, "x", impl.ErrFull, true, "behind the last Gen")
		wantNoDrop(t, x, "q", impl.ErrNone, true, "behind the last Gen")
		x = mustUnmark(t, d, "a")
		wantMarked(t, x, d, slot, a.remarked(plainDrop(a.vault.Super.Marks, "a")), "DropMark with the last Gen")
		wantNoDrop(t, x, "noon", impl.ErrFull, true, "behind the last Gen")
		wantNoSet(t, x, impl.Mark{Name: "a", Pos: 2}, impl.ErrFull, true, "behind the last Gen")
	}
}

// What is marked survives any crash, and the writes behind it.
func TestMarksStayBehindCrashesAndWrites(t *testing.T) {
	for _, a := range []tale{bareTale(), plainTale()} {
		m := impl.Mark{Name: "x", Pos: a.tip()}
		d := mustMark(t, vaultDisk(a.vault), m)
		for i, keeps := range keepsLists() {
			if y, code := impl.CrashDisk(d, keeps); code != impl.OK || !alikeDisk(y, d) {
				t.Errorf("a crash with keeps %d behind a mark: code %d", i, code)
			}
			wantMark(t, mustLoad(t, mustTear(t, d, nextFrames(a)[1], keeps)), m)
		}
		x := mustAppend(t, d, nextFrames(a)[1])
		wantMark(t, mustLoad(t, x), m)
		wantMark(t, mustLoad(t, mustMark(t, x, impl.Mark{Name: "y", Pos: a.tip() + 1})), impl.Mark{Name: "y", Pos: a.tip() + 1})
	}
}

// Promise 7, change by change: behind each one each mark is found by its name, and no other one.
func TestRunsOfMarks(t *testing.T) {
	r := rand.New(rand.NewSource(33))
	for range 120 {
		a := anyTale(r).anyMove(r)
		d, slot := vaultDisk(a.vault), 0
		for range 20 {
			marks := a.vault.Super.Marks
			name, n := anyNewName(r, marks), a.at[r.Intn(len(a.at))]
			x, next := d, a
			switch {
			case r.Intn(5) == 0:
				wantNoDrop(t, d, name, impl.ErrNone, true, "a run")
				continue
			case len(marks) > 0 && r.Intn(3) == 0:
				m := marks[r.Intn(len(marks))]
				wantNoSet(t, d, impl.Mark{Name: m.Name, Pos: n}, impl.ErrThere, true, "a run")
				x, next = mustUnmark(t, d, m.Name), a.remarked(plainDrop(marks, m.Name))
			case len(marks) == 4:
				wantNoSet(t, d, impl.Mark{Name: name, Pos: n}, impl.ErrFull, true, "a run")
				continue
			default:
				m := impl.Mark{Name: name, Pos: n}
				x, next = mustMark(t, d, m), a.remarked(plainSet(marks, m))
			}
			wantMarked(t, x, d, slot, next, "a run")
			d, a, slot = x, next, 1-slot
			wantIndex(t, a.in(mustLoad(t, d)))
		}
	}
}
