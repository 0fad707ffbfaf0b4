package tests

import (
	"math"
	"math/rand"
	"slices"
	"strings"
	"testing"

	"loop.example/g00608/impl"
)

// allVaults are vaults of each kind that a call may be handed.
func allVaults() []impl.Vault {
	var out []impl.Vault
	for _, a := range tales() {
		last := len(a.at) - 1
		out = append(out, a.vault, a.standing(last), a.moving(0, last, 0), a.moving(last, 0, 5), a.moving(last/2, last, 255))
	}
	for _, c := range wrongVaults() {
		out = append(out, c.vault)
	}
	return out
}

// allVaultDisks are disks of each kind that a call of vaults may be handed.
func allVaultDisks(t *testing.T) []impl.Disk {
	right := vaultDisk(plainTale().vault)
	out := []impl.Disk{
		right, turnedDisk(plainTale().vault), unflushedDisk(plainTale().vault), vaultDisk(bareTale().vault), vaultDisk(fullTale().vault), vaultDisk(lastTale().vault),
		vaultDisk(plainTale().moving(1, 4, 5)), vaultDisk(plainTale().moving(3, 0, 4)), withSector(right, 5, "what"), withSector(right, 40, ""), withSector(right, 4, valueText(13)),
		withSector(right, 0, plainSuperText(withGen(plainTale().vault.Super, 999999))), mustWrite(t, right, 60, "x"), mustWrite(t, right, 0, "torn"),
	}
	for _, c := range slices.Concat(rightDisks(), wrongDisks()) {
		out = append(out, c.disk)
	}
	return out
}

func vaultFrames() []impl.Frame {
	return append(allFrames(), impl.Frame{Pos: 11, Block: 2, Value: 3, Time: 4}, impl.Frame{Pos: 12}, impl.Frame{Pos: 10}, impl.Frame{Pos: 21})
}

// Promise 1: no call changes a vault, nor what stands behind the ends of its lists.
func TestVaultsStayAsTheyWere(t *testing.T) {
	for i, want := range allVaults() {
		v, w := guardedVault(want), guardedVault(want)
		impl.VaultOK(v)
		impl.TipOf(v)
		impl.RetainedOf(v)
		for _, n := range []int{v.Super.Base, v.Super.Pos, v.Super.Target, 0, 10, 20, 999999} {
			impl.ContentAt(v, n)
		}
		impl.SameVault(v, w)
		if !wholeVault(v, want) || !wholeVault(w, want) {
			t.Errorf("vault %d is changed", i)
		}
	}
}

func TestVaultDisksStayAsTheyWere(t *testing.T) {
	for i, disk := range allVaultDisks(t) {
		d, keeps := guardedDisk(disk), guarded([]bool{false, false, false}, true)
		impl.LoadVault(d)
		for _, f := range vaultFrames() {
			impl.AppendWrite(d, f)
			impl.AppendTorn(d, f, keeps)
			impl.AppendTorn(d, f, nil)
		}
		if !wholeDisk(d, disk) || !wholeList(keeps, []bool{false, false, false}, true) {
			t.Errorf("disk %d is changed, or its keeps", i)
		}
	}
	for i, content := range allContents() {
		c := guarded(content, guardValue)
		impl.FormatVault(c)
		if !wholeList(c, content, guardValue) {
			t.Errorf("FormatVault changes content %d", i)
		}
	}
}

// Promise 1: an answer is new memory, also where it is what was given.
func TestWrittenDisksShareNoMemory(t *testing.T) {
	for i, disk := range allVaultDisks(t) {
		for _, f := range vaultFrames() {
			for _, call := range []func(d impl.Disk) (impl.Disk, int){
				func(d impl.Disk) (impl.Disk, int) { return impl.AppendWrite(d, f) },
				func(d impl.Disk) (impl.Disk, int) { return impl.AppendTorn(d, f, nil) },
				func(d impl.Disk) (impl.Disk, int) { return impl.AppendTorn(d, f, []bool{true}) },
			} {
				d := guardedDisk(disk)
				answer, _ := call(d)
				before := copyDisk(answer)
				scribbleDisk(answer)
				if !wholeDisk(d, disk) {
					t.Errorf("a write into what is made of disk %d is seen in it", i)
				}
				answer, _ = call(d)
				scribbleDisk(d)
				if !alikeDisk(answer, before) {
					t.Errorf("a write into disk %d is seen in what was made of it", i)
				}
			}
		}
	}
}

func TestNewVaultsShareNoMemory(t *testing.T) {
	for i, content := range rightContents() {
		c := slices.Clone(content)
		first, _ := impl.FormatVault(c)
		second, _ := impl.FormatVault(c)
		before := copyDisk(second)
		scribbleDisk(first)
		scribble(c, guardValue)
		third, _ := impl.FormatVault(content)
		if !alikeDisk(second, before) || !alikeDisk(third, before) {
			t.Errorf("a write into a new vault of content %d, or into the content, is seen elsewhere", i)
		}
	}
}

// vaultLists are the lists of a vault, one by one, each with a call that writes all over it.
func vaultLists(v impl.Vault) []func() {
	out := []func(){
		func() { scribble(v.Super.Table, guardSector) },
		func() { scribble(v.Super.Marks, guardMark) },
		func() { scribble(v.Image, guardValue) },
	}
	for _, g := range v.Segs {
		out = append(out, func() { scribble(g.Changes, guardChange) })
	}
	return append(out, func() { scribble(v.Segs, guardSeg) })
}

// countOtherLists tells how many of a vault's lists are not as they were; those of the segments count one by one.
func countOtherLists(v, want impl.Vault) int {
	n := 0
	for _, same := range []bool{slices.Equal(v.Super.Table, want.Super.Table), slices.Equal(v.Super.Marks, want.Super.Marks), slices.Equal(v.Image, want.Image)} {
		if !same {
			n++
		}
	}
	for i, g := range v.Segs {
		if !slices.Equal(g.Changes, want.Segs[i].Changes) {
			n++
		}
	}
	return n
}

func TestLoadedVaultsShareNoMemory(t *testing.T) {
	for i, want := range []impl.Vault{bareTale().vault, plainTale().vault, fullTale().vault, plainTale().moving(1, 4, 5)} {
		disk := vaultDisk(want)
		d := guardedDisk(disk)
		first, second := mustLoad(t, d), mustLoad(t, d)
		scribbleVault(first)
		if !wholeDisk(d, disk) || !alikeVault(second, want) || !alikeVault(mustLoad(t, d), want) {
			t.Errorf("a write into what was loaded of vault %d is seen elsewhere", i)
		}
		scribbleDisk(d)
		if !alikeVault(second, want) {
			t.Errorf("a write into the disk of vault %d is seen in what was loaded", i)
		}
		// no two lists of one answer share any
		for j := range vaultLists(want)[:3+len(want.Segs)] {
			v := mustLoad(t, disk)
			vaultLists(v)[j]()
			if countOtherLists(v, want) > 1 {
				t.Errorf("a write into list %d of what was loaded of vault %d is seen in another one", j, i)
			}
		}
	}
}

func TestContentsOfVaultsShareNoMemory(t *testing.T) {
	for _, a := range tales() {
		for _, b := range a.vaults() {
			for i, n := range b.at {
				v := guardedVault(b.vault)
				first, _ := impl.ContentAt(v, n)
				second, _ := impl.ContentAt(v, n)
				list, _ := impl.RetainedOf(v)
				other, _ := impl.RetainedOf(v)
				scribble(first, guardValue-1)
				scribble(list, guardValue-1)
				if !wholeVault(v, b.vault) || !slices.Equal(second, b.contents[i]) || !slices.Equal(other, b.at) {
					t.Errorf("a write into an answer of %v is seen elsewhere", b.vault)
				}
				scribbleVault(v)
				if !slices.Equal(second, b.contents[i]) || !slices.Equal(other, b.at) {
					t.Errorf("a write into %v is seen in an answer", b.vault)
				}
			}
		}
	}
}

type vaultAnswer struct {
	right, same                       bool
	tip, tipCode                      int
	retained, content                 []int
	retainedCode, contentCode         int
	format, written, torn             impl.Disk
	formatCode, writtenCode, tornCode int
	loaded                            impl.Vault
	loadCode                          int
}

func askVaults(v, w impl.Vault, n int, c []int, d impl.Disk, f impl.Frame, keeps []bool) vaultAnswer {
	var out vaultAnswer
	out.right, out.same = impl.VaultOK(v), impl.SameVault(v, w)
	out.tip, out.tipCode = impl.TipOf(v)
	out.retained, out.retainedCode = impl.RetainedOf(v)
	out.content, out.contentCode = impl.ContentAt(v, n)
	out.format, out.formatCode = impl.FormatVault(c)
	out.loaded, out.loadCode = impl.LoadVault(d)
	out.written, out.writtenCode = impl.AppendWrite(d, f)
	out.torn, out.tornCode = impl.AppendTorn(d, f, keeps)
	return out
}

func alikeVaultAnswer(a, b vaultAnswer) bool {
	return a.right == b.right && a.same == b.same && a.tip == b.tip && a.tipCode == b.tipCode &&
		slices.Equal(a.retained, b.retained) && a.retainedCode == b.retainedCode && slices.Equal(a.content, b.content) && a.contentCode == b.contentCode &&
		alikeDisk(a.format, b.format) && a.formatCode == b.formatCode && alikeVault(a.loaded, b.loaded) && a.loadCode == b.loadCode &&
		alikeDisk(a.written, b.written) && a.writtenCode == b.writtenCode && alikeDisk(a.torn, b.torn) && a.tornCode == b.tornCode
}

// Promise 1: alike arguments have alike answers, whatever was called ahead, and whatever stands behind their ends.
func TestAlikeVaultArgumentsHaveAlikeAnswers(t *testing.T) {
	r := rand.New(rand.NewSource(24))
	vaults, disks, contents, frames, lists := allVaults(), allVaultDisks(t), allContents(), vaultFrames(), keepsLists()
	for range 3000 {
		v, w, n := vaults[r.Intn(len(vaults))], vaults[r.Intn(len(vaults))], r.Intn(25)
		c, d, f, keeps := contents[r.Intn(len(contents))], disks[r.Intn(len(disks))], frames[r.Intn(len(frames))], lists[r.Intn(len(lists))]
		first := askVaults(v, w, n, c, d, f, keeps)
		askVaults(plainTale().moving(0, 2, 3), v, 3, plainContent(), vaultDisk(plainTale().vault), impl.Frame{Pos: 11, Value: 9}, []bool{true})
		second := askVaults(guardedVault(v), guardedVault(w), n, guarded(c, guardValue), guardedDisk(d), f, guarded(keeps, true))
		if !alikeVaultAnswer(first, second) {
			t.Fatalf("%.200v and %v have two answers", v, f)
		}
	}
}

func TestNilAndEmptyListsOfVaults(t *testing.T) {
	none := impl.Vault{Super: impl.Super{Gen: 1}, Image: plainContent()}
	empty := impl.Vault{Super: impl.Super{Gen: 1, Table: []int{}, Marks: []impl.Mark{}}, Segs: []impl.Seg{}, Image: plainContent()}
	a, b := vaultDisk(none), vaultDisk(none)
	b.Cache = []impl.Write{}
	f := impl.Frame{Pos: 1, Block: 2, Value: 3}
	if !alikeVaultAnswer(askVaults(none, empty, 0, nil, a, f, nil), askVaults(empty, none, 0, []int{}, b, f, []bool{})) {
		t.Error("nil lists and empty ones of a vault are told apart")
	}
	if !impl.SameVault(none, empty) || !impl.SameVault(impl.Vault{}, impl.Vault{Segs: []impl.Seg{}, Image: []int{}}) {
		t.Error("SameVault tells nil lists and empty ones apart")
	}
	bare, full := impl.Vault{Segs: []impl.Seg{{To: 1}}}, impl.Vault{Segs: []impl.Seg{{To: 1, Changes: []impl.Change{}}}}
	if !impl.SameVault(bare, full) {
		t.Error("SameVault tells nil changes and empty ones apart")
	}
}

// anyWildVault has numbers out of bounds, and lists that do not fit.
func anyWildVault(r *rand.Rand, numbers []int) impl.Vault {
	pick := func() int { return numbers[r.Intn(len(numbers))] }
	v := impl.Vault{Super: impl.Super{Gen: pick(), Base: pick(), Pos: pick(), Target: pick()}}
	for range r.Intn(4) {
		v.Super.Table = append(v.Super.Table, pick())
	}
	for range r.Intn(3) {
		v.Super.Marks = append(v.Super.Marks, impl.Mark{Name: strings.Repeat("m", r.Intn(8)), Pos: pick()})
	}
	for range r.Intn(4) {
		v.Segs = append(v.Segs, impl.Seg{From: pick(), To: pick(), Time: pick(), Changes: []impl.Change{{Block: pick(), New: pick(), Old: pick()}}})
	}
	for range r.Intn(11) {
		v.Image = append(v.Image, pick())
	}
	return v
}

// anyChangedVault is near to a right one, so that what is asked late is asked too.
func anyChangedVault(r *rand.Rand, numbers []int) impl.Vault {
	v := copyVault(anyTale(r).anyMove(r).vault)
	for range 1 + r.Intn(2) {
		n := numbers[r.Intn(len(numbers))]
		switch r.Intn(6) {
		case 0:
			v.Super.Base = n
		case 1:
			v.Super.Pos = n
		case 2:
			v.Super.Target = n
		case 3:
			v.Image[r.Intn(8)] = n
		case 4:
			v.Segs = v.Segs[:r.Intn(len(v.Segs)+1)]
		case 5:
			v.Super.Table = v.Super.Table[:r.Intn(len(v.Super.Table)+1)]
		}
	}
	return v
}

// Promise 1: no call panics, whatever it is given; a panic fails the test by itself.
func TestNoVaultCallPanics(t *testing.T) {
	numbers := []int{math.MinInt, -1, 0, 1, 2, 3, 7, 8, 9, 10, 11, 20, 63, 64, 999999, 1000000, math.MaxInt}
	disks, frames, contents := allVaultDisks(t), vaultFrames(), allContents()
	for i, v := range allVaults() {
		for _, n := range numbers {
			impl.ContentAt(v, n)
		}
		askVaults(v, v, i, contents[i%len(contents)], disks[i%len(disks)], frames[i%len(frames)], make([]bool, 40*i))
	}
	for _, d := range disks {
		for _, a := range numbers {
			for _, b := range numbers {
				impl.AppendWrite(d, impl.Frame{Pos: a, Block: b, Value: a, Time: b})
				impl.AppendTorn(d, impl.Frame{Pos: a, Block: b, Value: b, Time: a}, []bool{true, false})
			}
		}
	}
	r := rand.New(rand.NewSource(25))
	for range 5000 {
		v, w := anyWildVault(r, numbers), anyChangedVault(r, numbers)
		for _, n := range []int{numbers[r.Intn(len(numbers))], v.Super.Pos, w.Super.Base} {
			impl.ContentAt(v, n)
			impl.ContentAt(w, n)
		}
		impl.VaultOK(v)
		impl.TipOf(w)
		impl.RetainedOf(w)
		impl.SameVault(v, w)
		text := make([]byte, r.Intn(60))
		r.Read(text)
		d := withSector(vaultDisk(plainTale().vault), 2+r.Intn(62), seal(string(text)))
		impl.LoadVault(d)
		impl.AppendWrite(d, impl.Frame{Pos: 11})
	}
}
