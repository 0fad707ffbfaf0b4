package tests

import (
	"math"
	"math/rand"
	"slices"
	"strings"
	"testing"

	"loop.example/g00608/impl"
)

func TestRightVaults(t *testing.T) {
	for _, a := range tales() {
		for _, b := range a.vaults() {
			wantRight(t, b)
		}
	}
}

func TestAnyRightVaults(t *testing.T) {
	r := rand.New(rand.NewSource(21))
	for range 1500 {
		a := anyTale(r).anyMove(r)
		wantRight(t, a)
		if got := mustLoad(t, vaultDisk(a.vault)); !alikeVault(got, a.vault) {
			t.Fatalf("LoadVault = %v, want %v", got, a.vault)
		}
	}
}

func TestWrongVaults(t *testing.T) {
	for _, c := range wrongVaults() {
		wantWrong(t, c.vault, c.name)
	}
}

// The vault is written out here, a half done step too, so that a fault of the tales is seen.
func TestVaultsByHand(t *testing.T) {
	v := impl.Vault{
		Super: impl.Super{Gen: 3, Base: 2, Pos: 3, Target: 9, Table: []int{20, 11, 50}, Marks: marksOf(5, "a")},
		Segs: []impl.Seg{
			{From: 2, To: 3, Time: 1, Changes: change(2, 50, 12)},
			{From: 3, To: 5, Time: 1, Changes: []impl.Change{{Block: 0, New: 20, Old: 10}, {Block: 2, New: 60, Old: 50}}},
			{From: 5, To: 9, Time: 4, Changes: change(0, 30, 20)},
		},
		Image: []int{20, 11, 50, 13, 14, 15, 16, 17},
	}
	want := tale{v, []int{2, 3, 5, 9}, [][]int{
		{10, 11, 12, 13, 14, 15, 16, 17},
		{10, 11, 50, 13, 14, 15, 16, 17},
		{20, 11, 60, 13, 14, 15, 16, 17},
		{30, 11, 60, 13, 14, 15, 16, 17},
	}}
	wantRight(t, want)
	v.Super.Target = 2
	wantWrong(t, v, "a step ahead that is half done, and a move back")
	v.Image = []int{10, 11, 12, 13, 14, 15, 16, 17}
	wantRight(t, want.in(v))
	v.Image = []int{10, 11, 50, 13, 14, 15, 16, 17}
	wantRight(t, want.in(v))
	v.Super.Target = 3
	wantRight(t, want.in(v))
	v.Image = []int{10, 11, 12, 13, 14, 15, 16, 17}
	wantWrong(t, v, "a step back that is done, and no move")
}

func TestContentAtOtherPositions(t *testing.T) {
	for _, a := range tales() {
		for _, b := range a.vaults() {
			for _, n := range []int{math.MinInt, -1, 1000000, math.MaxInt, b.at[0] - 1, b.tip() + 1} {
				wantNotRetained(t, b.vault, n)
			}
		}
	}
	for _, b := range plainTale().vaults() {
		for n := range 14 {
			if !slices.Contains(b.at, n) {
				wantNotRetained(t, b.vault, n)
			}
		}
	}
}

func changesBlock(list []impl.Seg, block int) bool {
	return slices.ContainsFunc(list, func(g impl.Seg) bool {
		return slices.ContainsFunc(g.Changes, func(c impl.Change) bool { return c.Block == block })
	})
}

// What was old is what was new ahead, from the image on: another old or new value is seen only if the image, or a segment, says what was there.
func TestOtherOldAndNewValues(t *testing.T) {
	for _, a := range tales() {
		for from := range a.at {
			for to := range a.at {
				b := a.in(a.moving(from, to, 170))
				_, end := a.step(from, to)
				for i := range b.vault.Segs {
					// The next step's own segment is done anew, so the image does not say what it was or becomes.
					inStep := i >= min(from, end) && i < max(from, end)
					wantOldAndNewAsKnown(t, b, i, i < end || inStep, i >= end || inStep)
				}
			}
		}
	}
}

// wantOldAndNewAsKnown is told whether the image leaves open what was old, and what is new, in the i-th segment.
func wantOldAndNewAsKnown(t *testing.T, a tale, i int, oldOpen, newOpen bool) {
	t.Helper()
	for j, c := range a.vault.Segs[i].Changes {
		v := copyVault(a.vault)
		v.Segs[i].Changes[j].Old ^= 1
		want := oldOpen && !changesBlock(a.vault.Segs[:i], c.Block)
		if got := impl.VaultOK(v); got != want {
			t.Errorf("VaultOK with another old value %d of segment %d = %t: %v", j, i, got, v)
		}
		v = copyVault(a.vault)
		v.Segs[i].Changes[j].New ^= 1
		want = newOpen && !changesBlock(a.vault.Segs[i+1:], c.Block)
		if got := impl.VaultOK(v); got != want {
			t.Errorf("VaultOK with another new value %d of segment %d = %t: %v", j, i, got, v)
		}
	}
}

// A block of the image counts if a segment changes it that the next step does not go over: that step writes its own blocks.
func TestOtherBlocksOfTheImage(t *testing.T) {
	for _, a := range tales() {
		for from := range a.at {
			for to := range a.at {
				v := a.moving(from, to, 240)
				g, _ := a.step(from, to)
				for block := range 8 {
					w := copyVault(v)
					w.Image[block] ^= 1
					want := changesBlock([]impl.Seg{g}, block) || !changesBlock(a.vault.Segs, block)
					if got := impl.VaultOK(w); got != want {
						t.Errorf("VaultOK with another block %d = %t: %v", block, got, w)
					}
				}
			}
		}
	}
}

// A move steps over one segment alone: what the ones behind it would write is not there yet.
func TestStepsAreOneSegmentLong(t *testing.T) {
	a := plainTale()
	v := a.moving(0, 4, 0)
	v.Image = slices.Clone(a.contents[2])
	wantWrong(t, v, "two steps ahead at once")
	v = a.moving(3, 0, 0)
	v.Image = slices.Clone(a.contents[1])
	wantWrong(t, v, "two steps back at once")
}

func TestFormatVaultByHand(t *testing.T) {
	d, code := impl.FormatVault([]int{10, 11, 12, 13, 14, 15, 0, 999999})
	want := make([]string, 64)
	want[0] = "000001000000000000000000|" + "377"
	want[2], want[8], want[9] = "000010"+"180", "000000"+"149", "999999"+"409"
	for block := range 6 {
		want[2+block] = valueText(10 + block)
	}
	if code != impl.OK || !alikeDisk(d, impl.Disk{Sure: want}) {
		t.Errorf("FormatVault = %v, code %d, want %v", d, code, want)
	}
}

func TestFormatVaultOfAnyContent(t *testing.T) {
	r := rand.New(rand.NewSource(22))
	contents := rightContents()
	for range 300 {
		contents = append(contents, anyContent(r))
	}
	for _, c := range contents {
		want := make([]string, 64)
		want[0] = plainSuperText(impl.Super{Gen: 1})
		for block, v := range c {
			want[2+block] = valueText(v)
		}
		d, code := impl.FormatVault(c)
		if code != impl.OK || !alikeDisk(d, impl.Disk{Sure: want}) {
			t.Errorf("FormatVault of %v = %v, code %d", c, d, code)
		}
		a := newTale(impl.Super{Gen: 1}, c)
		if v := mustLoad(t, d); !alikeVault(v, a.vault) {
			t.Errorf("LoadVault of a new vault of %v = %v", c, v)
		}
		wantRight(t, a)
	}
}

func TestFormatVaultOfWhatIsNotRight(t *testing.T) {
	for _, c := range wrongContents() {
		if d, code := impl.FormatVault(c.content); code != impl.ErrBad || !zeroDisk(d) {
			t.Errorf("FormatVault of a content %s: code %d, want ErrBad alone", c.name, code)
		}
	}
	for _, c := range longContents() {
		if d, code := impl.FormatVault(c.content); code != impl.ErrLong || !zeroDisk(d) {
			t.Errorf("FormatVault of a content %s: code %d, want ErrLong alone", c.name, code)
		}
	}
}

func TestLoadVault(t *testing.T) {
	for _, a := range tales() {
		for _, b := range a.vaults() {
			disks := []impl.Disk{vaultDisk(b.vault), turnedDisk(b.vault), unflushedDisk(b.vault)}
			for i, d := range disks {
				if got := mustLoad(t, d); !alikeVault(got, b.vault) {
					t.Errorf("LoadVault of disk %d = %v, want %v", i, got, b.vault)
				}
			}
		}
	}
}

// The segments come in the order of the table, not of the sectors, and what other sectors have counts for nothing.
func TestLoadVaultGoesByTheTable(t *testing.T) {
	a := plainTale()
	d := vaultDisk(a.vault)
	for at := 10; at < 64; at++ {
		if !slices.Contains(a.vault.Super.Table, at) {
			d.Sure[at] = plainSegText(impl.Seg{From: 10, To: 11, Time: 9})
		}
	}
	if got := mustLoad(t, d); !alikeVault(got, a.vault) {
		t.Errorf("LoadVault with segments beside the table = %v, want %v", got, a.vault)
	}
	turned := a.vault
	turned.Super.Table = []int{10, 63, 40, 12}
	wantNoLoad(t, withSector(d, 0, plainSuperText(turned.Super)), impl.ErrDamaged, "a table whose sectors are turned")
}

// Behind a newest super that is not right any more, the older one counts, if its vault is there.
func TestLoadVaultOfTheOlderSuper(t *testing.T) {
	a := plainTale()
	d := vaultDisk(a.vault)
	newer := a.with(30, 11, 8, map[int]int{4: 1}).vault.Super
	newer.Gen++
	text := plainSuperText(newer)
	wantNoLoad(t, withSector(d, 1, text), impl.ErrDamaged, "a newest super whose segment is not there")
	if got := mustLoad(t, withSector(d, 1, text[:len(text)-1])); !alikeVault(got, a.vault) {
		t.Errorf("LoadVault beside a torn super = %v", got)
	}
}

func TestLoadVaultCodes(t *testing.T) {
	for _, c := range wrongDisks() {
		wantNoLoad(t, c.disk, impl.ErrBad, c.name)
	}
	right := vaultDisk(plainTale().vault)
	wantNoLoad(t, withSector(right, 20, strings.Repeat("x", 301)), impl.ErrBad, "a vault, and a sector too long")
	wantNoLoad(t, withSector(withSector(right, 0, "what"), 20, strings.Repeat("x", 301)), impl.ErrBad, "no super, and a sector too long")
	for _, a := range noSuperTexts() {
		for _, b := range noSuperTexts() {
			d := withSector(withSector(right, 0, a), 1, b)
			wantNoLoad(t, d, impl.ErrSuper, "no right super")
			wantNoLoad(t, withSector(d, 3, "what"), impl.ErrSuper, "no right super, and a block that is not right")
			wantNoLoad(t, withSector(d, 63, "what"), impl.ErrSuper, "no right super, and a segment that is not right")
		}
	}
	wantNoLoad(t, impl.NewDisk(), impl.ErrSuper, "a new disk")
	wantNoLoad(t, mustWrite(t, right, 0, "torn"), impl.ErrSuper, "a super that is written over")
}

func TestLoadVaultOfDamagedBlocks(t *testing.T) {
	for _, a := range []tale{bareTale(), plainTale()} {
		d := vaultDisk(a.vault)
		for at := 2; at < 10; at++ {
			for _, text := range damagedNumberTexts() {
				if text != valueText(a.vault.Image[at-2]) {
					wantNoLoad(t, withSector(d, at, text), impl.ErrDamaged, "a block that is not right")
					wantNoLoad(t, mustWrite(t, d, at, text), impl.ErrDamaged, "a block that is not right, not flushed")
				}
			}
		}
	}
}

func TestLoadVaultOfDamagedSegments(t *testing.T) {
	a := plainTale()
	d := vaultDisk(a.vault)
	for i, at := range a.vault.Super.Table {
		text := d.Sure[at]
		g := a.vault.Segs[i]
		damaged := append(damagedNumberTexts(),
			text[1:], text[:len(text)-1], text+"0", text+text, seal(sixDigits(g.From, g.To)), seal(sixDigits(g.To, g.From, g.Time)))
		for _, other := range damaged {
			wantNoLoad(t, withSector(d, at, other), impl.ErrDamaged, "a segment that is not right")
			wantNoLoad(t, mustWrite(t, d, at, other), impl.ErrDamaged, "a segment that is not right, not flushed")
		}
		for _, other := range eachOtherByte(text, "0189x") {
			wantNoLoad(t, withSector(d, at, other), impl.ErrDamaged, "a segment with another byte")
		}
	}
}

// All texts are right, but what they make is no vault.
func TestLoadVaultOfWhatDoesNotFit(t *testing.T) {
	for _, c := range slices.Concat(wrongPlaceVaults(), wrongChainVaults()) {
		v := c.vault
		if impl.SuperOK(v.Super) && len(v.Segs) == len(v.Super.Table) && !slices.ContainsFunc(v.Segs, func(g impl.Seg) bool { return !impl.SegOK(g) }) {
			wantNoLoad(t, vaultDisk(v), impl.ErrDamaged, c.name)
			wantNoLoad(t, unflushedDisk(v), impl.ErrDamaged, c.name)
		}
	}
	for i := range plainTale().at {
		d := vaultDisk(plainTale().standing(i))
		wantNoLoad(t, withSector(d, 4, valueText(13)), impl.ErrDamaged, "an image with another block")
		if v := mustLoad(t, withSector(d, 6, valueText(15))); v.Image[4] != 15 {
			t.Errorf("LoadVault of another block that no segment changes = %v", v)
		}
	}
}

func TestSameVault(t *testing.T) {
	var all []impl.Vault
	for _, c := range append(wrongPlaceVaults(), wrongChainVaults()...) {
		all = append(all, c.vault)
	}
	for _, a := range tales() {
		all = append(all, a.vault)
	}
	all = append(all, plainTale().moving(1, 4, 0), plainTale().moving(1, 4, 1), impl.Vault{})
	for i, a := range all {
		for j, b := range all {
			want := alikeVault(a, b)
			if got := impl.SameVault(a, copyVault(b)); got != want || i == j && !got {
				t.Errorf("SameVault of vaults %d and %d = %t", i, j, got)
			}
		}
	}
}

func TestSameVaultSeesEachPart(t *testing.T) {
	changes := []func(v *impl.Vault){
		func(v *impl.Vault) { v.Super.Gen++ },
		func(v *impl.Vault) { v.Super.Base++ },
		func(v *impl.Vault) { v.Super.Pos++ },
		func(v *impl.Vault) { v.Super.Target++ },
		func(v *impl.Vault) { v.Super.Table[3]++ },
		func(v *impl.Vault) { v.Super.Table = v.Super.Table[:3] },
		func(v *impl.Vault) { v.Super.Table = nil },
		func(v *impl.Vault) { v.Super.Marks[1].Pos++ },
		func(v *impl.Vault) { v.Super.Marks[0].Name = "b" },
		func(v *impl.Vault) { v.Super.Marks = v.Super.Marks[:1] },
		func(v *impl.Vault) { v.Segs[3].From++ },
		func(v *impl.Vault) { v.Segs[3].To++ },
		func(v *impl.Vault) { v.Segs[0].Time++ },
		func(v *impl.Vault) { v.Segs[1].Changes[2].Block-- },
		func(v *impl.Vault) { v.Segs[1].Changes[2].New++ },
		func(v *impl.Vault) { v.Segs[1].Changes[2].Old++ },
		func(v *impl.Vault) { v.Segs[1].Changes = v.Segs[1].Changes[:2] },
		func(v *impl.Vault) { v.Segs = v.Segs[:3] },
		func(v *impl.Vault) { v.Segs = nil },
		func(v *impl.Vault) { v.Image[0]++ },
		func(v *impl.Vault) { v.Image[7]++ },
		func(v *impl.Vault) { v.Image = v.Image[:7] },
		func(v *impl.Vault) { v.Image = nil },
	}
	for i, change := range changes {
		a := plainTale().vault
		b := changedVault("", a, change).vault
		if impl.SameVault(a, b) || impl.SameVault(b, a) || !impl.SameVault(b, copyVault(b)) {
			t.Errorf("SameVault does not see change %d", i)
		}
	}
}
