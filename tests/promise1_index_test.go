package tests

import (
	"math"
	"math/rand"
	"testing"

	"loop.example/g00608/impl"
)

// indexVaults are vaults of each kind that a call of marks and times may be handed.
func indexVaults() []impl.Vault {
	out := allVaults()
	for _, a := range markTales() {
		out = append(out, a.vault, a.moving(0, len(a.at)-1, 5))
	}
	return out
}

func indexDisks(t *testing.T) []impl.Disk {
	out := allVaultDisks(t)
	for _, a := range markTales() {
		out = append(out, vaultDisk(a.vault), turnedDisk(a.moving(len(a.at)-1, 0, 5)))
	}
	return out
}

// indexMarks are marks of which some are there on some disks, and some lead to each code.
func indexMarks() []impl.Mark {
	return []impl.Mark{
		{Name: "x", Pos: 2}, {Name: "aa", Pos: 0}, {Name: "m", Pos: 5}, {Name: "noon", Pos: 10}, {Name: "zzzzzz", Pos: 999999},
		{Name: "b", Pos: 4}, {Name: "A", Pos: 2}, {Name: "", Pos: 0}, {Name: longNames()[0], Pos: 2},
	}
}

// Promise 1: no call changes a vault or a disk, nor what stands behind the ends of their lists.
func TestIndexArgumentsStayAsTheyWere(t *testing.T) {
	for i, want := range indexVaults() {
		v := guardedVault(want)
		for _, m := range indexMarks() {
			impl.IsRetained(v, m.Pos)
			impl.AtTime(v, m.Pos)
			impl.MarkPos(v, m.Name)
		}
		if !wholeVault(v, want) {
			t.Errorf("vault %d is changed", i)
		}
	}
	for i, want := range indexDisks(t) {
		d := guardedDisk(want)
		for _, m := range indexMarks() {
			impl.SetMark(d, m.Name, m.Pos)
			impl.DropMark(d, m.Name)
		}
		if !wholeDisk(d, want) {
			t.Errorf("disk %d is changed", i)
		}
	}
}

// Promise 1: an answer is new memory, also where it is what was given.
func TestMarkedDisksShareNoMemory(t *testing.T) {
	for i, disk := range indexDisks(t) {
		for _, m := range indexMarks() {
			for _, call := range []func(d impl.Disk) (impl.Disk, int){
				func(d impl.Disk) (impl.Disk, int) { return impl.SetMark(d, m.Name, m.Pos) },
				func(d impl.Disk) (impl.Disk, int) { return impl.DropMark(d, m.Name) },
			} {
				d := guardedDisk(disk)
				answer, _ := call(d)
				other, _ := call(d)
				before := copyDisk(other)
				scribbleDisk(answer)
				if !wholeDisk(d, disk) || !alikeDisk(other, before) {
					t.Errorf("a write into what is made of disk %d with %.50q is seen elsewhere", i, m.Name)
				}
				scribbleDisk(d)
				if !alikeDisk(other, before) {
					t.Errorf("a write into disk %d is seen in what was made of it with %.50q", i, m.Name)
				}
			}
		}
	}
}

type indexAnswer struct {
	retained                         bool
	atTime, pos                      int
	retainedCode, timeCode, markCode int
	set, dropped                     impl.Disk
	setCode, dropCode                int
}

func askIndex(v impl.Vault, d impl.Disk, m impl.Mark) indexAnswer {
	var out indexAnswer
	out.retained, out.retainedCode = impl.IsRetained(v, m.Pos)
	out.atTime, out.timeCode = impl.AtTime(v, m.Pos)
	out.pos, out.markCode = impl.MarkPos(v, m.Name)
	out.set, out.setCode = impl.SetMark(d, m.Name, m.Pos)
	out.dropped, out.dropCode = impl.DropMark(d, m.Name)
	return out
}

func alikeIndexAnswer(a, b indexAnswer) bool {
	return a.retained == b.retained && a.atTime == b.atTime && a.pos == b.pos &&
		a.retainedCode == b.retainedCode && a.timeCode == b.timeCode && a.markCode == b.markCode &&
		alikeDisk(a.set, b.set) && alikeDisk(a.dropped, b.dropped) && a.setCode == b.setCode && a.dropCode == b.dropCode
}

// Promise 1: alike arguments have alike answers, whatever was called ahead, and whatever stands behind their ends.
func TestAlikeIndexArgumentsHaveAlikeAnswers(t *testing.T) {
	r := rand.New(rand.NewSource(34))
	vaults, disks, marks := indexVaults(), indexDisks(t), indexMarks()
	for range 3000 {
		v, d, m := vaults[r.Intn(len(vaults))], disks[r.Intn(len(disks))], marks[r.Intn(len(marks))]
		first := askIndex(v, d, m)
		askIndex(plainTale().moving(0, 2, 3), vaultDisk(plainTale().vault), impl.Mark{Name: "x", Pos: 5})
		if second := askIndex(guardedVault(v), guardedDisk(d), m); !alikeIndexAnswer(first, second) {
			t.Fatalf("%.200v and %.50v have two answers", v, m)
		}
	}
}

// The marks come back in one order, however often they are set.
func TestMarksHaveOneOrder(t *testing.T) {
	d := vaultDisk(plainTale().marked(marksOf(5, "d", "e", "f")...).vault)
	want := mustMark(t, d, impl.Mark{Name: "c", Pos: 9})
	for range 200 {
		if x := mustMark(t, d, impl.Mark{Name: "c", Pos: 9}); !alikeDisk(x, want) {
			t.Fatal("a mark that is set twice on one disk leads to two disks")
		}
	}
}

func TestNilAndEmptyListsOfMarks(t *testing.T) {
	none := bareTale().vault
	empty := impl.Vault{Super: impl.Super{Gen: 1, Table: []int{}, Marks: []impl.Mark{}}, Segs: []impl.Seg{}, Image: plainContent()}
	a, b := vaultDisk(none), vaultDisk(none)
	b.Cache = []impl.Write{}
	for _, m := range indexMarks() {
		if !alikeIndexAnswer(askIndex(none, a, m), askIndex(empty, b, m)) {
			t.Errorf("nil lists and empty ones are told apart with %.50q", m.Name)
		}
	}
}

// Promise 1: no call panics, whatever it is given; a panic fails the test by itself.
func TestNoIndexCallPanics(t *testing.T) {
	numbers := []int{math.MinInt, -1, 0, 1, 2, 3, 5, 9, 10, 11, 20, 999999, 1000000, math.MaxInt}
	names := append([]string{"a", "m", "noon", "x", longNames()[1]}, wrongMarkNames()...)
	vaults, disks := indexVaults(), indexDisks(t)
	for i, v := range vaults {
		for j, n := range numbers {
			askIndex(v, disks[(i+j)%len(disks)], impl.Mark{Name: names[(i+j)%len(names)], Pos: n})
		}
	}
	for _, d := range disks {
		for _, n := range numbers {
			for _, name := range names {
				impl.SetMark(d, name, n)
			}
		}
		for _, name := range names {
			impl.DropMark(d, name)
		}
	}
	r := rand.New(rand.NewSource(35))
	for range 5000 {
		m := impl.Mark{Name: names[r.Intn(len(names))], Pos: numbers[r.Intn(len(numbers))]}
		text := make([]byte, r.Intn(60))
		r.Read(text)
		d := withSector(vaultDisk(plainTale().vault), r.Intn(64), seal(string(text)))
		askIndex(anyWildVault(r, numbers), d, m)
		askIndex(anyChangedVault(r, numbers), d, m)
	}
}
