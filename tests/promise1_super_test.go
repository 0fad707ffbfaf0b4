package tests

import (
	"math"
	"math/rand"
	"slices"
	"strings"
	"testing"

	"loop.example/g00608/impl"
)

// superDisks are disks of each kind that a call of supers may be handed.
func superDisks(t *testing.T) []impl.Disk {
	a, b := plainSuperText(withGen(plainSuper(), 4)), plainSuperText(withGen(fullSuper(), 5))
	last := plainSuperText(fullSuper())
	out := []impl.Disk{
		slotsDisk(a, ""), slotsDisk("", b), slotsDisk(a, b), slotsDisk(b, a), slotsDisk(a, a), slotsDisk("", ""), slotsDisk(last, a),
		mustWrite(t, slotsDisk(a, b), 0, last),
		mustWrite(t, mustWrite(t, slotsDisk(a, ""), 1, b), 30, "text"),
		mustWrite(t, slotsDisk(a, ""), 0, "torn"),
	}
	for _, c := range append(rightDisks(), wrongDisks()...) {
		out = append(out, c.disk)
	}
	return out
}

func superTexts() []string {
	out := append(noSuperTexts(), strings.Repeat("|", 65536), strings.Repeat("|", 65537), seal("|"), seal("|="), "\x00\xff|")
	for _, s := range rightSupers() {
		out = append(out, plainSuperText(s), plainSuperBody(s))
	}
	return out
}

// Promise 1: no call changes a super or a disk, nor what stands behind their ends.
func TestSuperArgumentsStayAsTheyWere(t *testing.T) {
	for i, want := range allSupers() {
		s := guardedSuper(want)
		impl.SuperOK(s)
		impl.SuperText(s)
		impl.FreeSectors(s)
		if !wholeSuper(s, want) {
			t.Errorf("super %d is changed", i)
		}
		for j, disk := range superDisks(t) {
			d := guardedDisk(disk)
			impl.NewestSuper(d)
			impl.CommitSuper(d, s)
			if !wholeDisk(d, disk) || !wholeSuper(s, want) {
				t.Errorf("a commit of super %d changes it, or disk %d", i, j)
			}
		}
	}
}

// Promise 1: a disk that is answered is new memory, also where it is what was given.
func TestCommittedDisksShareNoMemory(t *testing.T) {
	for i, disk := range superDisks(t) {
		for _, want := range []impl.Super{plainSuper(), fullSuper(), {Gen: 1}} {
			d, s := guardedDisk(disk), guardedSuper(want)
			answer, _ := impl.CommitSuper(d, s)
			before := copyDisk(answer)
			scribbleDisk(answer)
			if !wholeDisk(d, disk) || !wholeSuper(s, want) {
				t.Errorf("a write into what is committed on disk %d is seen in an argument", i)
			}
			answer, _ = impl.CommitSuper(d, s)
			scribbleDisk(d)
			scribbleSuper(s)
			if !alikeDisk(answer, before) {
				t.Errorf("a write into an argument is seen in what is committed on disk %d", i)
			}
		}
	}
}

func TestSupersThatAreReadShareNoMemory(t *testing.T) {
	for i, want := range rightSupers() {
		text := plainSuperText(want)
		first, _ := impl.ReadSuper(text)
		second, _ := impl.ReadSuper(text)
		d := slotsDisk(text, text)
		third, _, _ := impl.NewestSuper(d)
		fourth, _, _ := impl.NewestSuper(d)
		scribbleSuper(first)
		scribbleSuper(third)
		fifth, _ := impl.ReadSuper(text)
		for _, s := range []impl.Super{second, fourth, fifth} {
			if !alikeSuper(s, want) {
				t.Errorf("a write into what was read of super %d is seen elsewhere", i)
			}
		}
		if !alikeDisk(d, slotsDisk(text, text)) {
			t.Errorf("a write into what was read of super %d is seen in the disk", i)
		}
	}
}

func TestFreeSectorsShareNoMemory(t *testing.T) {
	for i, want := range rightSupers() {
		s := guardedSuper(want)
		first, _ := impl.FreeSectors(s)
		second, _ := impl.FreeSectors(s)
		before := slices.Clone(second)
		scribble(first, guardSector-1)
		if !wholeSuper(s, want) || !slices.Equal(second, before) {
			t.Errorf("a write into FreeSectors' answer of super %d is seen elsewhere", i)
		}
		scribbleSuper(s)
		if !slices.Equal(second, before) {
			t.Errorf("a write into super %d is seen in FreeSectors' answer", i)
		}
	}
}

type superAnswer struct {
	right            bool
	text             string
	read, newest     impl.Super
	free             []int
	disk             impl.Disk
	slot             int
	textCode, freed  int
	readCode, commit int
	newestCode       int
}

func askSupers(d impl.Disk, s impl.Super, t string) superAnswer {
	var out superAnswer
	out.right = impl.SuperOK(s)
	out.text, out.textCode = impl.SuperText(s)
	out.read, out.readCode = impl.ReadSuper(t)
	out.newest, out.slot, out.newestCode = impl.NewestSuper(d)
	out.free, out.freed = impl.FreeSectors(s)
	out.disk, out.commit = impl.CommitSuper(d, s)
	return out
}

func alikeSuperAnswer(a, b superAnswer) bool {
	return a.right == b.right && a.text == b.text && a.textCode == b.textCode && alikeSuper(a.read, b.read) && a.readCode == b.readCode &&
		alikeSuper(a.newest, b.newest) && a.slot == b.slot && a.newestCode == b.newestCode &&
		slices.Equal(a.free, b.free) && a.freed == b.freed && alikeDisk(a.disk, b.disk) && a.commit == b.commit
}

// Promise 1: alike arguments have alike answers, whatever was called ahead, and whatever stands behind their ends.
func TestAlikeSuperArgumentsHaveAlikeAnswers(t *testing.T) {
	r := rand.New(rand.NewSource(8))
	disks, supers, texts := superDisks(t), allSupers(), superTexts()
	for range 3000 {
		d, s, text := disks[r.Intn(len(disks))], supers[r.Intn(len(supers))], texts[r.Intn(len(texts))]
		first := askSupers(d, s, text)
		askSupers(disks[r.Intn(len(disks))], fullSuper(), plainSuperText(plainSuper()))
		second := askSupers(guardedDisk(d), guardedSuper(s), strings.Clone(text))
		if !alikeSuperAnswer(first, second) {
			t.Fatalf("%.80v and %.80q have two answers", s, text)
		}
	}
}

func TestNilAndEmptyListsOfSupers(t *testing.T) {
	none, empty := impl.Super{Gen: 3}, impl.Super{Gen: 3, Table: []int{}, Marks: []impl.Mark{}}
	text := plainSuperText(none)
	if !alikeSuperAnswer(askSupers(slotsDisk(text, ""), none, text), askSupers(slotsDisk(text, ""), empty, text)) {
		t.Error("nil lists and empty ones of a super are told apart")
	}
	a, b := slotsDisk(text, ""), slotsDisk(text, "")
	a.Cache, b.Cache = nil, []impl.Write{}
	if !alikeSuperAnswer(askSupers(a, none, text), askSupers(b, none, text)) {
		t.Error("a nil cache and an empty one are told apart")
	}
}

// Promise 1: no call panics, whatever it is given; a panic fails the test by itself.
func TestNoSuperCallPanics(t *testing.T) {
	disks, numbers := superDisks(t), []int{math.MinInt, -1, 0, 1, 9, 10, 63, 64, 999999, 1000000, math.MaxInt}
	for _, text := range superTexts() {
		for _, s := range allSupers() {
			askSupers(disks[len(text)%len(disks)], s, text)
		}
	}
	for i, a := range numbers {
		for _, b := range numbers {
			for _, c := range numbers {
				s := impl.Super{Gen: a, Base: b, Pos: c, Target: a, Table: []int{b, c}, Marks: []impl.Mark{{Name: "m", Pos: a}}}
				askSupers(disks[i%len(disks)], s, "")
				askSupers(disks[2], impl.Super{Gen: 1, Base: b, Pos: c, Target: a, Table: []int{a, c}}, "")
			}
		}
	}
	r := rand.New(rand.NewSource(9))
	for range 3000 {
		text := make([]byte, r.Intn(60))
		r.Read(text)
		impl.ReadSuper(seal(string(text)))
		impl.ReadSuper(seal(sixDigits(1, 0, 0, 0) + "|" + string(text)))
		impl.NewestSuper(slotsDisk(seal(string(text)), string(text)))
	}
}
