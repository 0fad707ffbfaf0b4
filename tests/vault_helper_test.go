package tests

import (
	"math/rand"
	"slices"
	"strings"
	"testing"

	"loop.example/g00608/impl"
)

// tale is a vault that stands at Base, with the content at each position that is retained, told without the help of the program.
type tale struct {
	vault    impl.Vault
	at       []int
	contents [][]int
}

// newTale has no segment; what it has of a super beyond Table, Pos and Target is s's.
func newTale(s impl.Super, c []int) tale {
	s.Pos, s.Target, s.Table = s.Base, s.Base, nil
	return tale{impl.Vault{Super: s, Image: c}, []int{s.Base}, [][]int{c}}
}

func (a tale) tip() int {
	return a.at[len(a.at)-1]
}

func (a tale) last() []int {
	return a.contents[len(a.contents)-1]
}

// with puts a segment behind the others; its changes are new values alone, the old ones are those of the content.
func (a tale) with(sector, to, time int, news map[int]int) tale {
	g := impl.Seg{From: a.tip(), To: to, Time: time}
	for block, old := range a.last() {
		if v, ok := news[block]; ok {
			g.Changes = append(g.Changes, impl.Change{Block: block, New: v, Old: old})
		}
	}
	a.vault = copyVault(a.vault)
	a.vault.Segs = append(a.vault.Segs, g)
	a.vault.Super.Table = append(a.vault.Super.Table, sector)
	a.contents = append(slices.Clone(a.contents), plainTurn(a.last(), g, true))
	a.at = append(slices.Clone(a.at), to)
	return a
}

// withWrite is the tale behind a write that comes next.
func (a tale) withWrite(f impl.Frame) tale {
	sector, time := 10, f.Time
	for slices.Contains(a.vault.Super.Table, sector) {
		sector++
	}
	if n := len(a.vault.Segs); n > 0 && a.vault.Segs[n-1].Time > time {
		time = a.vault.Segs[n-1].Time
	}
	a = a.with(sector, f.Pos, time, map[int]int{f.Block: f.Value})
	a.vault.Super.Gen++
	return a
}

// in answers the tale with another vault, which is at the same positions.
func (a tale) in(v impl.Vault) tale {
	a.vault = v
	return a
}

// standing is the vault with its image at the i-th position that is retained.
func (a tale) standing(i int) impl.Vault {
	v := copyVault(a.vault)
	v.Super.Pos, v.Super.Target, v.Image = a.at[i], a.at[i], slices.Clone(a.contents[i])
	return v
}

// moving is the vault in a move, whose next step has written the blocks of the mask, if it changes them.
func (a tale) moving(from, to, mask int) impl.Vault {
	v := a.standing(from)
	v.Super.Target = a.at[to]
	g, end := a.step(from, to)
	for _, c := range g.Changes {
		if mask>>c.Block&1 == 1 {
			v.Image[c.Block] = a.contents[end][c.Block]
		}
	}
	return v
}

// step is the segment of the next step, and at which of the positions that step ends.
func (a tale) step(from, to int) (impl.Seg, int) {
	switch {
	case to > from:
		return a.vault.Segs[from], from + 1
	case to < from:
		return a.vault.Segs[from-1], from - 1
	}
	return impl.Seg{}, from
}

// vaults are the tale's vault at each position, and in moves to the nearest and the farthest ones, with a step that is not begun, half done and wholly done.
func (a tale) vaults() []tale {
	var out []tale
	last := len(a.at) - 1
	for from := range a.at {
		out = append(out, a.in(a.standing(from)))
		for _, to := range slices.Compact([]int{0, max(from-1, 0), from, min(from+1, last), last}) {
			for _, mask := range []int{0, 5, 170, 255} {
				if to != from {
					out = append(out, a.in(a.moving(from, to, mask)))
				}
			}
		}
	}
	return out
}

func bareTale() tale {
	return newTale(impl.Super{Gen: 1}, plainContent())
}

// plainTale has a segment of more than one position, one of more than one block, one that changes nothing, and values that come back.
func plainTale() tale {
	a := newTale(impl.Super{Gen: 7, Base: 2, Marks: []impl.Mark{{Name: "a", Pos: 2}, {Name: "noon", Pos: 9}}}, plainContent())
	a = a.with(63, 3, 4, map[int]int{2: 50})
	a = a.with(10, 5, 4, map[int]int{0: 20, 2: 60, 7: 0})
	a = a.with(40, 9, 8, map[int]int{2: 12, 3: 13})
	return a.with(12, 10, 8, nil)
}

// fullTale has MaxSegs segments and MaxMarks marks.
func fullTale() tale {
	a := newTale(impl.Super{Gen: 21, Marks: marksOf(0, "a", "b", "c", "d")}, plainContent())
	for i := range 20 {
		a = a.with(29-i, i+1, 10*i, map[int]int{i % 8: 100 + i})
	}
	a.vault.Super.Marks[3].Pos = 20
	return a
}

// lastTale ends at the last position there is.
func lastTale() tale {
	a := newTale(impl.Super{Gen: 5, Base: 999990}, []int{999999, 0, 999999, 0, 999999, 0, 999999, 0})
	return a.with(33, 999999, 999999, map[int]int{0: 0, 7: 999999})
}

func tales() []tale {
	return []tale{bareTale(), newTale(impl.Super{Gen: 3, Base: 999999, Marks: marksOf(999999, "end")}, plainContent()), plainTale(), fullTale(), lastTale()}
}

func anyTale(r *rand.Rand) tale {
	a := newTale(impl.Super{Gen: anyNumber(r, 1, 999970), Base: anyNumber(r, 0, 900000)}, anyContent(r))
	time := 0
	for _, i := range r.Perm(54)[:r.Intn(21)] {
		time = min(time+r.Intn(20), 999999)
		news := map[int]int{}
		for block := range 8 {
			if r.Intn(3) == 0 {
				news[block] = anyNumber(r, 0, 999999)
			}
		}
		a = a.with(10+i, a.tip()+1+r.Intn(3), time, news)
	}
	for _, name := range []string{"a", "noon", "zz"}[:r.Intn(4)] {
		a.vault.Super.Marks = append(a.vault.Super.Marks, impl.Mark{Name: name, Pos: a.at[r.Intn(len(a.at))]})
	}
	return a
}

// anyMove answers the tale at any of its positions, or in any of its moves.
func (a tale) anyMove(r *rand.Rand) tale {
	return a.in(a.moving(r.Intn(len(a.at)), r.Intn(len(a.at)), r.Intn(256)))
}

func copyVault(v impl.Vault) impl.Vault {
	out := impl.Vault{Super: copySuper(v.Super), Image: slices.Clone(v.Image)}
	for _, g := range v.Segs {
		out.Segs = append(out.Segs, copySeg(g))
	}
	return out
}

func guardedVault(v impl.Vault) impl.Vault {
	var segs []impl.Seg
	for _, g := range v.Segs {
		segs = append(segs, guardedSeg(g))
	}
	return impl.Vault{Super: guardedSuper(v.Super), Segs: guardedSegs(segs), Image: guarded(v.Image, guardValue)}
}

func wholeVault(v, want impl.Vault) bool {
	return wholeSuper(v.Super, want.Super) && wholeSegs(v.Segs, want.Segs) && wholeList(v.Image, want.Image, guardValue)
}

func scribbleVault(v impl.Vault) {
	for _, g := range v.Segs {
		scribble(g.Changes, guardChange)
	}
	scribbleSuper(v.Super)
	scribble(v.Segs, guardSeg)
	scribble(v.Image, guardValue)
}

func alikeVault(a, b impl.Vault) bool {
	return alikeSuper(a.Super, b.Super) && slices.EqualFunc(a.Segs, b.Segs, alikeSeg) && slices.Equal(a.Image, b.Image)
}

func zeroVault(v impl.Vault) bool {
	return alikeVault(v, impl.Vault{})
}

func valueText(v int) string {
	return seal(sixDigits(v))
}

// vaultDisk has the vault's texts, with its super in slot 0, and something in each other sector, so that a write elsewhere is seen.
func vaultDisk(v impl.Vault) impl.Disk {
	d := slotsDisk(plainSuperText(v.Super), "torn")
	for block, value := range v.Image {
		d.Sure[2+block] = valueText(value)
	}
	for i, g := range v.Segs {
		d.Sure[v.Super.Table[i]] = plainSegText(g)
	}
	return d
}

// turnedDisk is vaultDisk with the super in slot 1, and in slot 0 an older one that would lead elsewhere.
func turnedDisk(v impl.Vault) impl.Disk {
	d := vaultDisk(v)
	d.Sure[1] = d.Sure[0]
	d.Sure[0] = "torn"
	if v.Super.Gen > 1 {
		d.Sure[0] = plainSuperText(impl.Super{Gen: v.Super.Gen - 1, Base: 77, Pos: 77, Target: 77})
	}
	return d
}

// unflushedDisk has all that a vault has in its cache, each write over one that is not right.
func unflushedDisk(v impl.Vault) impl.Disk {
	d, whole := slotsDisk("", ""), vaultDisk(v)
	for at := range 64 {
		if at < 10 && at != 1 || slices.Contains(v.Super.Table, at) {
			d.Sure[at] = "what"
			d.Cache = append(d.Cache, impl.Write{At: at, Data: "no"}, impl.Write{At: at, Data: whole.Sure[at]})
		}
	}
	return d
}

// withSector is a copy of the disk with another text in a sector.
func withSector(d impl.Disk, at int, text string) impl.Disk {
	d = copyDisk(d)
	d.Sure[at] = text
	return d
}

func mustLoad(t *testing.T, d impl.Disk) impl.Vault {
	t.Helper()
	v, code := impl.LoadVault(d)
	if code != impl.OK {
		t.Fatalf("LoadVault: code %d", code)
	}
	return v
}

func wantNoLoad(t *testing.T, d impl.Disk, want int, what string) {
	t.Helper()
	if v, code := impl.LoadVault(d); code != want || !zeroVault(v) {
		t.Errorf("LoadVault of %s = %v, code %d, want code %d alone", what, v, code, want)
	}
}

func wantContent(t *testing.T, v impl.Vault, n int, want []int) {
	t.Helper()
	if c, code := impl.ContentAt(v, n); code != impl.OK || !slices.Equal(c, want) {
		t.Errorf("ContentAt %d of %v = %v, code %d, want %v", n, v, c, code, want)
	}
}

func wantNotRetained(t *testing.T, v impl.Vault, n int) {
	t.Helper()
	if c, code := impl.ContentAt(v, n); code != impl.ErrRetained || len(c) != 0 {
		t.Errorf("ContentAt %d of %v = %v, code %d, want ErrRetained alone", n, v, c, code)
	}
}

// wantRight asks of a vault all that the chapter tells of it.
func wantRight(t *testing.T, a tale) {
	t.Helper()
	if !impl.VaultOK(a.vault) {
		t.Errorf("VaultOK of %v is false", a.vault)
	}
	if tip, code := impl.TipOf(a.vault); code != impl.OK || tip != a.tip() {
		t.Errorf("TipOf %v = %d, code %d, want %d", a.vault, tip, code, a.tip())
	}
	if list, code := impl.RetainedOf(a.vault); code != impl.OK || !slices.Equal(list, a.at) {
		t.Errorf("RetainedOf %v = %v, code %d, want %v", a.vault, list, code, a.at)
	}
	for i, n := range a.at {
		wantContent(t, a.vault, n, a.contents[i])
	}
}

// wantWrong asks that a vault is not right for any call.
func wantWrong(t *testing.T, v impl.Vault, what string) {
	t.Helper()
	if impl.VaultOK(v) {
		t.Errorf("VaultOK of %s is true", what)
	}
	if tip, code := impl.TipOf(v); code != impl.ErrBad || tip != 0 {
		t.Errorf("TipOf %s = %d, code %d, want ErrBad alone", what, tip, code)
	}
	if list, code := impl.RetainedOf(v); code != impl.ErrBad || len(list) != 0 {
		t.Errorf("RetainedOf %s = %v, code %d, want ErrBad alone", what, list, code)
	}
	for _, n := range []int{v.Super.Base, v.Super.Pos, 0, -1, 999999, 1000000} {
		if c, code := impl.ContentAt(v, n); code != impl.ErrBad || len(c) != 0 {
			t.Errorf("ContentAt %d of %s = %v, code %d, want ErrBad alone", n, what, c, code)
		}
	}
}

type namedVault struct {
	name  string
	vault impl.Vault
}

// changedVault is a copy of the vault with something else in it.
func changedVault(name string, v impl.Vault, change func(v *impl.Vault)) namedVault {
	v = copyVault(v)
	change(&v)
	return namedVault{name, v}
}

// wrongPartVaults have a part that is not right by itself.
func wrongPartVaults() []namedVault {
	out := []namedVault{{"zero", impl.Vault{}}}
	for _, c := range wrongSupers() {
		out = append(out, namedVault{"super " + c.name, impl.Vault{Super: c.super, Image: plainContent()}})
	}
	for _, c := range append(wrongContents(), longContents()...) {
		out = append(out, namedVault{"image " + c.name, impl.Vault{Super: impl.Super{Gen: 1}, Image: c.content}})
	}
	for _, c := range wrongSegs() {
		out = append(out,
			namedVault{"segment " + c.name, impl.Vault{Super: impl.Super{Gen: 1, Table: []int{10}}, Segs: []impl.Seg{c.seg}, Image: plainContent()}},
			changedVault("last segment "+c.name, plainTale().vault, func(v *impl.Vault) { v.Segs[3] = c.seg }))
	}
	return out
}

// wrongPlaceVaults have parts that are right, but a place that is not retained, or a table of another length.
func wrongPlaceVaults() []namedVault {
	var out []namedVault
	add := func(name string, v impl.Vault, change func(v *impl.Vault)) {
		out = append(out, changedVault(name, v, change))
	}
	a := plainTale()
	for i := range a.at {
		for _, n := range []int{0, 1, 4, 6, 8, 11, 999999} {
			add("Pos that is not retained", a.standing(i), func(v *impl.Vault) { v.Super.Pos = n })
			add("Target that is not retained", a.standing(i), func(v *impl.Vault) { v.Super.Target = n })
			add("both not retained", a.standing(i), func(v *impl.Vault) { v.Super.Pos, v.Super.Target = n, n })
			add("first mark that is not retained", a.standing(i), func(v *impl.Vault) { v.Super.Marks[0].Pos = n })
			add("last mark that is not retained", a.moving(i, 4-i, 3), func(v *impl.Vault) { v.Super.Marks[1].Pos = n })
		}
		add("a sector over", a.standing(i), func(v *impl.Vault) { v.Super.Table = append(v.Super.Table, 44) })
		add("a sector short", a.standing(i), func(v *impl.Vault) { v.Super.Table = v.Super.Table[:3] })
		add("no sector", a.standing(i), func(v *impl.Vault) { v.Super.Table = nil })
	}
	add("a last segment short", a.standing(0), func(v *impl.Vault) { v.Segs = v.Segs[:3] })
	add("a sector without a segment", bareTale().vault, func(v *impl.Vault) { v.Super.Table = []int{10} })
	add("a segment without a sector", bareTale().vault, func(v *impl.Vault) { v.Segs = []impl.Seg{{From: 0, To: 1}} })
	add("no segment, and a position behind Base", bareTale().vault, func(v *impl.Vault) { v.Super.Pos, v.Super.Target = 1, 1 })
	add("no segment, and a move", bareTale().vault, func(v *impl.Vault) { v.Super.Target = 1 })
	add("21 segments", fullTale().vault, func(v *impl.Vault) { v.Segs = append(v.Segs, impl.Seg{From: 20, To: 21, Time: 999}) })
	add("21 segments and sectors", fullTale().vault, func(v *impl.Vault) {
		v.Segs, v.Super.Table = append(v.Segs, impl.Seg{From: 20, To: 21, Time: 999}), sectorsFrom(10, 21)
	})
	return out
}

// wrongChainVaults have segments that do not lead on, or not from Base.
func wrongChainVaults() []namedVault {
	var out []namedVault
	add := func(name string, change func(v *impl.Vault)) {
		out = append(out, changedVault(name, plainTale().vault, change))
	}
	add("a first segment ahead of Base", func(v *impl.Vault) { v.Segs[0].From = 1 })
	add("Base ahead of the first segment", func(v *impl.Vault) { v.Super.Base, v.Super.Pos, v.Super.Target = 1, 1, 1 })
	add("Base at the first segment's end", func(v *impl.Vault) { v.Super.Base, v.Super.Pos, v.Super.Target = 3, 3, 3 })
	add("a gap", func(v *impl.Vault) { v.Segs[1].From = 4 })
	add("one over the other", func(v *impl.Vault) { v.Segs[2].From = 4 })
	add("times that fall", func(v *impl.Vault) { v.Segs[0].Time = 5 })
	add("a last time that falls", func(v *impl.Vault) { v.Segs[3].Time = 7 })
	add("segments turned", func(v *impl.Vault) { slices.Reverse(v.Segs) })
	add("a segment twice", func(v *impl.Vault) { v.Segs[2] = v.Segs[1] })
	return out
}

func wrongVaults() []namedVault {
	return slices.Concat(wrongPartVaults(), wrongPlaceVaults(), wrongChainVaults())
}

// damagedNumberTexts are no text of one number.
func damagedNumberTexts() []string {
	text := valueText(12)
	out := []string{
		"", "12", "000012", text[1:], text[:8], text + "0", " " + text, text + " ",
		seal(""), seal("12"), seal("00012"), seal("0000012"), seal("000012000012"), seal("+00012"), seal("-00012"), seal("00001a"), seal(" 00012"),
		plainSegText(impl.Seg{To: 1}), plainFrameText(impl.Frame{Pos: 1}), plainSuperText(impl.Super{Gen: 1}), strings.Repeat("0", 300), seal(strings.Repeat("000012", 49)),
	}
	for i := range len(text) {
		b := []byte(text)
		b[i] = '0' + (b[i]-'0'+1)%10
		out = append(out, string(b))
	}
	return out
}
