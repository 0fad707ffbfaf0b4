package tests

import (
	"math/rand"
	"slices"
	"strings"
	"testing"

	"loop.example/g00608/impl"
)

// noSuperTexts are what a slot may have that is no right super.
func noSuperTexts() []string {
	text := plainSuperText(plainSuper())
	return []string{
		"", "what", text[1:], text[:len(text)-1], text + "0", strings.Repeat("0", 300),
		seal("000000000000000000000000|"), seal("000009000000000000000000"), seal("000009000000000000000000000009|"),
		seal("000009000000000000000000|a=01"), "900001" + plainSuperText(impl.Super{Gen: 1})[6:],
		plainSegText(impl.Seg{To: 1}), plainFrameText(impl.Frame{Pos: 1}),
	}
}

func TestNewestSuperOfOneSlotAlone(t *testing.T) {
	for _, s := range rightSupers() {
		text := plainSuperText(s)
		for _, other := range noSuperTexts() {
			wantNewest(t, slotsDisk(text, other), s, 0, "slot 0 alone")
			wantNewest(t, slotsDisk(other, text), s, 1, "slot 1 alone")
		}
	}
}

func TestNewestSuperOfNoSlot(t *testing.T) {
	for _, a := range noSuperTexts() {
		for _, b := range noSuperTexts() {
			wantNoNewest(t, slotsDisk(a, b), impl.ErrSuper, "no right super")
		}
	}
	wantNoNewest(t, impl.NewDisk(), impl.ErrSuper, "a new disk")
	// a super in any other sector is none
	for at := 2; at < 64; at++ {
		d := impl.NewDisk()
		d.Sure[at] = plainSuperText(plainSuper())
		wantNoNewest(t, d, impl.ErrSuper, "a super elsewhere")
	}
}

func TestNewestSuperOfBothSlots(t *testing.T) {
	low, high := plainSuper(), impl.Super{Gen: 1, Base: 4, Pos: 6, Target: 8, Table: []int{33}}
	for _, gens := range [][2]int{{1, 2}, {7, 8}, {9, 10}, {99, 100}, {1, 999999}, {999998, 999999}} {
		a, b := withGen(low, gens[0]), withGen(high, gens[1])
		wantNewest(t, slotsDisk(plainSuperText(a), plainSuperText(b)), b, 1, "the greater Gen in slot 1")
		wantNewest(t, slotsDisk(plainSuperText(b), plainSuperText(a)), b, 0, "the greater Gen in slot 0")
	}
}

func TestNewestSuperOfTheSameGen(t *testing.T) {
	for _, gen := range []int{1, 7, 999999} {
		a, b := withGen(plainSuper(), gen), withGen(fullSuper(), gen)
		wantNewest(t, slotsDisk(plainSuperText(a), plainSuperText(b)), a, 0, "the same Gen")
		wantNewest(t, slotsDisk(plainSuperText(b), plainSuperText(a)), b, 0, "the same Gen, turned")
		wantNewest(t, slotsDisk(plainSuperText(a), plainSuperText(a)), a, 0, "one super twice")
	}
}

// By ReadSector: a write that is not flushed counts, and hides what is below it.
func TestNewestSuperOfWhatIsNotFlushed(t *testing.T) {
	a, b := withGen(plainSuper(), 4), withGen(fullSuper(), 5)
	d := slotsDisk(plainSuperText(a), "")
	wantNewest(t, mustWrite(t, d, 1, plainSuperText(b)), b, 1, "a newer one that is not flushed")
	wantNewest(t, mustWrite(t, d, 1, "torn"), a, 0, "a wrong one that is not flushed")
	wantNoNewest(t, mustWrite(t, d, 0, "torn"), impl.ErrSuper, "a right one below a wrong one")
	wantNewest(t, mustWrite(t, mustWrite(t, d, 0, "torn"), 0, plainSuperText(b)), b, 0, "the newest of two writes")
	wantNewest(t, mustWrite(t, impl.NewDisk(), 0, plainSuperText(a)), a, 0, "one that is not flushed alone")
	both := slotsDisk(plainSuperText(a), plainSuperText(b))
	wantNewest(t, mustWrite(t, both, 1, plainSuperText(withGen(b, 3))), a, 0, "an older one over a newer one")
}

func TestNewestSuperOfWrongDisks(t *testing.T) {
	for _, c := range wrongDisks() {
		wantNoNewest(t, c.disk, impl.ErrBad, c.name)
		d := copyDisk(c.disk)
		if len(d.Sure) > 1 {
			d.Sure[1] = plainSuperText(plainSuper())
			wantNoNewest(t, d, impl.ErrBad, c.name+" with a super")
		}
	}
}

// plainCommit is what CommitSuper makes of a disk whose newest super is in slot, told by the disk's lists alone.
func plainCommit(d impl.Disk, slot int, s impl.Super) impl.Disk {
	out := impl.Disk{Sure: slices.Clone(d.Sure)}
	for _, w := range d.Cache {
		out.Sure[w.At] = w.Data
	}
	out.Sure[1-slot] = plainSuperText(s)
	return out
}

func TestCommitSuperWritesTheOtherSlot(t *testing.T) {
	for _, s := range rightSupers() {
		old := withGen(fullSuper(), 41)
		next := withGen(s, 42)
		older := plainSuperText(withGen(plainSuper(), 40))
		for _, other := range append(noSuperTexts(), older) {
			for slot := range 2 {
				texts := [2]string{}
				texts[slot], texts[1-slot] = plainSuperText(old), other
				d := slotsDisk(texts[0], texts[1])
				x := mustCommit(t, d, s)
				if !alikeDisk(x, plainCommit(d, slot, next)) {
					t.Errorf("CommitSuper of %v beside slot %d: another disk", s, slot)
				}
				wantNewest(t, x, next, 1-slot, "what was committed")
			}
		}
	}
}

func TestCommitSuperBesideTheSameGen(t *testing.T) {
	a, b := withGen(plainSuper(), 6), withGen(fullSuper(), 6)
	d := slotsDisk(plainSuperText(a), plainSuperText(b))
	x := mustCommit(t, d, impl.Super{Gen: 1})
	if !alikeDisk(x, plainCommit(d, 0, impl.Super{Gen: 7})) {
		t.Error("CommitSuper beside two supers of the same Gen does not write slot 1 alone")
	}
	wantNewest(t, x, impl.Super{Gen: 7}, 1, "what was committed")
}

// Whatever Gen s has, it is committed with the newest one's and 1.
func TestCommitSuperGivesTheGen(t *testing.T) {
	for _, last := range []int{1, 2, 9, 99, 500, 99999, 999997, 999998} {
		for _, gen := range []int{1, 2, 500, 999998, 999999} {
			d := slotsDisk("", plainSuperText(impl.Super{Gen: last}))
			x := mustCommit(t, d, withGen(plainSuper(), gen))
			wantNewest(t, x, withGen(plainSuper(), last+1), 0, "what was committed")
		}
	}
}

// Promise 5: what is committed is the newest one then, commit by commit, in one slot and the other by turns.
func TestCommitsInTurn(t *testing.T) {
	r := rand.New(rand.NewSource(6))
	d := slotsDisk(plainSuperText(impl.Super{Gen: 1}), "")
	last, slot := impl.Super{Gen: 1}, 0
	for i := range 200 {
		s := anySuper(r)
		x := mustCommit(t, d, s)
		if x.Sure[slot] != plainSuperText(last) {
			t.Fatalf("commit %d changes what was the newest super", i)
		}
		last, slot, d = withGen(s, i+2), 1-slot, x
		wantNewest(t, d, last, slot, "a commit")
	}
}

// The first flush makes all sure that was written ahead, however full the cache is, and a super in it counts.
func TestCommitSuperFlushesWhatWasAhead(t *testing.T) {
	old := plainSuperText(withGen(plainSuper(), 3))
	for _, n := range []int{0, 1, 12, 79, 80} {
		d := slotsDisk(old, "")
		for i := range n {
			d = mustWrite(t, d, 2+i%62, strings.Repeat("n", i))
		}
		x := mustCommit(t, d, fullSuper())
		if len(x.Cache) != 0 || !alikeDisk(x, plainCommit(d, 0, withGen(fullSuper(), 4))) {
			t.Errorf("CommitSuper with %d writes in the cache: another disk", n)
		}
	}
	newer := withGen(fullSuper(), 9)
	d := mustWrite(t, slotsDisk(old, ""), 1, plainSuperText(newer))
	x := mustCommit(t, d, plainSuper())
	wantNewest(t, x, withGen(plainSuper(), 10), 0, "a commit beside one that was not flushed")
	if x.Sure[1] != plainSuperText(newer) {
		t.Error("CommitSuper loses a newest super that was not flushed")
	}
}

// Promise 5: what is committed survives any crash behind it.
func TestACrashBehindACommit(t *testing.T) {
	for _, s := range rightSupers() {
		d := mustWrite(t, slotsDisk(plainSuperText(withGen(plainSuper(), 3)), "torn"), 20, "a segment")
		x := mustCommit(t, d, s)
		for i, keeps := range keepsLists() {
			y, code := impl.CrashDisk(x, keeps)
			if code != impl.OK || !alikeDisk(y, x) {
				t.Errorf("a crash with keeps %d behind a commit: code %d", i, code)
			}
			wantNewest(t, y, withGen(s, 4), 1, "a crash behind a commit")
		}
	}
}

// A crash that tears the next commit leaves this one, since the other slot is written.
func TestATornCommitLeavesTheOneAhead(t *testing.T) {
	x := mustCommit(t, slotsDisk("", plainSuperText(impl.Super{Gen: 1})), plainSuper())
	next := mustCommit(t, x, fullSuper())
	for n := range len(next.Sure[1]) {
		torn := copyDisk(x)
		torn.Sure[1] = next.Sure[1][:n]
		wantNewest(t, torn, withGen(plainSuper(), 2), 0, "a torn commit")
	}
}

func TestCommitSuperCodes(t *testing.T) {
	none := slotsDisk("", "what")
	full := slotsDisk(plainSuperText(impl.Super{Gen: 999998}), plainSuperText(impl.Super{Gen: 999999}))
	fullFirst := slotsDisk(plainSuperText(impl.Super{Gen: 999999}), plainSuperText(impl.Super{Gen: 999999, Pos: 1}))
	fullAlone := slotsDisk("", plainSuperText(impl.Super{Gen: 999999}))
	cases := []struct {
		name string
		disk impl.Disk
		code int
	}{
		{"no super", none, impl.ErrSuper},
		{"a new disk", impl.NewDisk(), impl.ErrSuper},
		{"Gen MaxPos in slot 1", full, impl.ErrFull},
		{"Gen MaxPos in both slots", fullFirst, impl.ErrFull},
		{"Gen MaxPos in slot 1 alone", fullAlone, impl.ErrFull},
		{"Gen MaxPos that is not flushed", mustWrite(t, none, 0, fullAlone.Sure[1]), impl.ErrFull},
		{"no super, with writes", mustWrite(t, mustWrite(t, none, 20, "new"), 1, ""), impl.ErrSuper},
		{"Gen MaxPos, with writes", mustWrite(t, full, 20, "new"), impl.ErrFull},
	}
	for _, c := range cases {
		for _, s := range rightSupers() {
			if x, code := impl.CommitSuper(c.disk, s); code != c.code || !alikeDisk(x, c.disk) {
				t.Errorf("CommitSuper of %v, %s: code %d, want %d, as it was: %t", s, c.name, code, c.code, alikeDisk(x, c.disk))
			}
		}
		// ErrBad of the super comes ahead of what the disk has
		for _, w := range wrongSupers() {
			if x, code := impl.CommitSuper(c.disk, w.super); code != impl.ErrBad || !zeroDisk(x) {
				t.Errorf("CommitSuper of %q, %s: code %d, want ErrBad alone", w.name, c.name, code)
			}
		}
	}
}

func TestCommitSuperOfWrongArguments(t *testing.T) {
	right := slotsDisk(plainSuperText(plainSuper()), "")
	for _, c := range wrongSupers() {
		if x, code := impl.CommitSuper(right, c.super); code != impl.ErrBad || !zeroDisk(x) {
			t.Errorf("CommitSuper of %q: code %d, want ErrBad alone", c.name, code)
		}
	}
	for _, c := range wrongDisks() {
		d := copyDisk(c.disk)
		if len(d.Sure) > 0 && len(d.Sure[0]) <= 300 {
			d.Sure[0] = plainSuperText(plainSuper())
		}
		for _, s := range []impl.Super{plainSuper(), {Gen: 1}, {}} {
			if x, code := impl.CommitSuper(d, s); code != impl.ErrBad || !zeroDisk(x) {
				t.Errorf("CommitSuper on %q: code %d, want ErrBad alone", c.name, code)
			}
		}
	}
}

// slotsModel tells by plain lists what the newest super is, and where.
func slotsModel(d impl.Disk, supers map[string]impl.Super) (impl.Super, int, bool) {
	var best impl.Super
	at, found := 0, false
	for slot := range 2 {
		text := d.Sure[slot]
		for _, w := range d.Cache {
			if w.At == slot {
				text = w.Data
			}
		}
		if s, ok := supers[text]; ok && (!found || s.Gen > best.Gen) {
			best, at, found = s, slot, true
		}
	}
	return best, at, found
}

func TestRunsOfSlots(t *testing.T) {
	r := rand.New(rand.NewSource(7))
	for range 1500 {
		supers := map[string]impl.Super{}
		texts := append(noSuperTexts()[:4], "")
		for range 5 {
			s := withGen(anySuper(r), []int{1, 2, 3, 999998, 999999}[r.Intn(5)])
			supers[plainSuperText(s)] = s
			texts = append(texts, plainSuperText(s))
		}
		d := slotsDisk(texts[r.Intn(len(texts))], texts[r.Intn(len(texts))])
		for range r.Intn(4) {
			d.Cache = append(d.Cache, impl.Write{At: r.Intn(3), Data: texts[r.Intn(len(texts))]})
		}
		last, slot, found := slotsModel(d, supers)
		s := anySuper(r)
		x, code := impl.CommitSuper(d, s)
		switch {
		case !found:
			wantNoNewest(t, d, impl.ErrSuper, "a run")
			if code != impl.ErrSuper || !alikeDisk(x, d) {
				t.Fatalf("CommitSuper without a super: code %d", code)
			}
		case last.Gen == 999999:
			wantNewest(t, d, last, slot, "a run")
			if code != impl.ErrFull || !alikeDisk(x, d) {
				t.Fatalf("CommitSuper behind Gen MaxPos: code %d", code)
			}
		default:
			wantNewest(t, d, last, slot, "a run")
			wantNewest(t, x, withGen(s, last.Gen+1), 1-slot, "a run's commit")
			if code != impl.OK || !alikeDisk(x, plainCommit(d, slot, withGen(s, last.Gen+1))) {
				t.Fatalf("CommitSuper: code %d", code)
			}
		}
	}
}
