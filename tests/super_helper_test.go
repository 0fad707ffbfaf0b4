package tests

import (
	"fmt"
	"math"
	"math/rand"
	"slices"
	"strings"
	"testing"

	"loop.example/g00608/impl"
)

const guardSector = -33

var guardMark = impl.Mark{Name: "guard", Pos: -44}

func plainMarksText(marks []impl.Mark) string {
	t := ""
	for i, m := range marks {
		if i > 0 {
			t += ","
		}
		t += fmt.Sprintf("%s=%d", m.Name, m.Pos)
	}
	return t
}

// plainSuperBody is a super's text ahead of its sum, told without the help of the program.
func plainSuperBody(s impl.Super) string {
	return sixDigits(s.Gen, s.Base, s.Pos, s.Target) + sixDigits(s.Table...) + "|" + plainMarksText(s.Marks)
}

func plainSuperText(s impl.Super) string {
	return seal(plainSuperBody(s))
}

func alikeSuper(a, b impl.Super) bool {
	return a.Gen == b.Gen && a.Base == b.Base && a.Pos == b.Pos && a.Target == b.Target &&
		slices.Equal(a.Table, b.Table) && slices.Equal(a.Marks, b.Marks)
}

func zeroSuper(s impl.Super) bool {
	return alikeSuper(s, impl.Super{})
}

func copySuper(s impl.Super) impl.Super {
	s.Table, s.Marks = slices.Clone(s.Table), slices.Clone(s.Marks)
	return s
}

func guardedSuper(s impl.Super) impl.Super {
	s.Table, s.Marks = guarded(s.Table, guardSector), guarded(s.Marks, guardMark)
	return s
}

func wholeSuper(s, want impl.Super) bool {
	return alikeSuper(s, want) && wholeList(s.Table, want.Table, guardSector) && wholeList(s.Marks, want.Marks, guardMark)
}

func scribbleSuper(s impl.Super) {
	scribble(s.Table, guardSector)
	scribble(s.Marks, guardMark)
}

func withGen(s impl.Super, gen int) impl.Super {
	s = copySuper(s)
	s.Gen = gen
	return s
}

func sectorsFrom(first, n int) []int {
	var out []int
	for i := range n {
		out = append(out, first+i)
	}
	return out
}

func marksOf(pos int, names ...string) []impl.Mark {
	var out []impl.Mark
	for _, name := range names {
		out = append(out, impl.Mark{Name: name, Pos: pos})
	}
	return out
}

func plainSuper() impl.Super {
	return impl.Super{Gen: 7, Base: 2, Pos: 3, Target: 5, Table: []int{10, 63}, Marks: []impl.Mark{{Name: "a", Pos: 2}, {Name: "noon", Pos: 15}}}
}

// fullSuper has the longest text that a super may have.
func fullSuper() impl.Super {
	return impl.Super{Gen: 999999, Base: 999999, Pos: 999999, Target: 999999, Table: sectorsFrom(44, 20), Marks: marksOf(999999, "aaaaaa", "aaaaab", "zzzzzy", "zzzzzz")}
}

func rightSupers() []impl.Super {
	return []impl.Super{
		{Gen: 1},
		{Gen: 1, Table: []int{}, Marks: []impl.Mark{}},
		{Gen: 999999},
		plainSuper(),
		fullSuper(),
		{Gen: 1, Base: 999999, Pos: 999999, Target: 999999},
		{Gen: 1, Base: 0, Pos: 999999, Target: 0},
		{Gen: 1, Base: 0, Pos: 0, Target: 999999},
		{Gen: 2, Base: 5, Pos: 5, Target: 5},
		{Gen: 2, Base: 5, Pos: 6, Target: 5},
		{Gen: 1, Table: []int{10}},
		{Gen: 1, Table: []int{63}},
		{Gen: 1, Table: []int{63, 10, 40, 11}}, // sectors need not rise
		{Gen: 1, Table: sectorsFrom(10, 19)},
		{Gen: 1, Table: sectorsFrom(10, 20)},
		{Gen: 1, Marks: marksOf(0, "a")},
		{Gen: 1, Marks: marksOf(999999, "z")},
		{Gen: 1, Marks: marksOf(10, "abcdef")},
		{Gen: 1, Marks: marksOf(100, "a", "aa", "ab", "b")}, // a beginning comes ahead
		{Gen: 1, Marks: marksOf(7, "azzzzz", "b")},
		{Gen: 1, Base: 50, Pos: 50, Target: 50, Marks: marksOf(49, "ahead")}, // retained or not is the vault's rule
	}
}

type namedSuper struct {
	name  string
	super impl.Super
}

func wrongNumberSupers() []namedSuper {
	return []namedSuper{
		{"zero", impl.Super{}},
		{"Gen 0", impl.Super{Gen: 0, Base: 1, Pos: 1, Target: 1}},
		{"Gen -1", impl.Super{Gen: -1}},
		{"Gen beyond MaxPos", impl.Super{Gen: 1000000}},
		{"Gen far below", impl.Super{Gen: math.MinInt}},
		{"Gen far beyond", impl.Super{Gen: math.MaxInt}},
		{"Base -1", impl.Super{Gen: 1, Base: -1}},
		{"Base far below", impl.Super{Gen: 1, Base: math.MinInt}},
		{"Base beyond MaxPos", impl.Super{Gen: 1, Base: 1000000, Pos: 1000000, Target: 1000000}},
		{"all but Gen far beyond", impl.Super{Gen: 1, Base: math.MaxInt, Pos: math.MaxInt, Target: math.MaxInt}},
		{"all but Gen -1", impl.Super{Gen: 1, Base: -1, Pos: -1, Target: -1}},
		{"Pos below Base", impl.Super{Gen: 1, Base: 2, Pos: 1, Target: 2}},
		{"Pos -1", impl.Super{Gen: 1, Pos: -1}},
		{"Pos beyond MaxPos", impl.Super{Gen: 1, Pos: 1000000}},
		{"Pos far beyond", impl.Super{Gen: 1, Pos: math.MaxInt}},
		{"Target below Base", impl.Super{Gen: 1, Base: 2, Pos: 2, Target: 1}},
		{"Target -1", impl.Super{Gen: 1, Target: -1}},
		{"Target beyond MaxPos", impl.Super{Gen: 1, Target: 1000000}},
		{"Target far below", impl.Super{Gen: 1, Target: math.MinInt}},
	}
}

func wrongTableSupers() []namedSuper {
	return []namedSuper{
		{"sector 9", impl.Super{Gen: 1, Table: []int{9}}},
		{"sector 64", impl.Super{Gen: 1, Table: []int{64}}},
		{"sector 0", impl.Super{Gen: 1, Table: []int{10, 0}}},
		{"sector -1", impl.Super{Gen: 1, Table: []int{10, 11, -1}}},
		{"sector far beyond", impl.Super{Gen: 1, Table: []int{math.MaxInt}}},
		{"sector far below", impl.Super{Gen: 1, Table: []int{math.MinInt}}},
		{"a sector twice", impl.Super{Gen: 1, Table: []int{10, 10}}},
		{"a sector twice, far apart", impl.Super{Gen: 1, Table: append(sectorsFrom(20, 19), 20)}},
		{"the last sector twice", impl.Super{Gen: 1, Table: []int{63, 12, 63}}},
		{"21 sectors", impl.Super{Gen: 1, Table: sectorsFrom(10, 21)}},
		{"all sectors", impl.Super{Gen: 1, Table: sectorsFrom(10, 54)}},
		{"sectors beyond MaxList", impl.Super{Gen: 1, Table: make([]int, 4097)}},
	}
}

func wrongMarkSupers() []namedSuper {
	out := []namedSuper{
		{"a name of 7 letters", impl.Super{Gen: 1, Marks: marksOf(1, "abcdefg")}},
		{"a long name", impl.Super{Gen: 1, Marks: marksOf(1, strings.Repeat("a", 70000))}},
		{"a name of no letter", impl.Super{Gen: 1, Marks: marksOf(1, "")}},
		{"a second name of no letter", impl.Super{Gen: 1, Marks: marksOf(1, "a", "")}},
		{"names that fall", impl.Super{Gen: 1, Marks: marksOf(1, "b", "a")}},
		{"names that fall at the end", impl.Super{Gen: 1, Marks: marksOf(1, "a", "b", "d", "c")}},
		{"a beginning that comes behind", impl.Super{Gen: 1, Marks: marksOf(1, "ab", "a")}},
		{"a name twice", impl.Super{Gen: 1, Marks: []impl.Mark{{Name: "a", Pos: 1}, {Name: "a", Pos: 2}}}},
		{"5 marks", impl.Super{Gen: 1, Marks: marksOf(1, "a", "b", "c", "d", "e")}},
		{"marks beyond MaxList", impl.Super{Gen: 1, Marks: make([]impl.Mark, 4097)}},
	}
	for _, pos := range []int{math.MinInt, -1, 1000000, math.MaxInt} {
		out = append(out,
			namedSuper{"a mark out of bounds", impl.Super{Gen: 1, Marks: marksOf(pos, "a")}},
			namedSuper{"a last mark out of bounds", impl.Super{Gen: 1, Marks: append(marksOf(1, "a", "b", "c"), impl.Mark{Name: "d", Pos: pos})}})
	}
	for _, name := range []string{"A", "Z", "_", "1", "a1", "aB", "a_", "a b", "`", "{", "a=", "a,", "a|", "\x00", "a\xff", "é", " a", "a "} {
		out = append(out, namedSuper{fmt.Sprintf("a name %q", name), impl.Super{Gen: 1, Marks: marksOf(1, name)}})
	}
	return out
}

func wrongSupers() []namedSuper {
	return slices.Concat(wrongNumberSupers(), wrongTableSupers(), wrongMarkSupers())
}

func allSupers() []impl.Super {
	out := rightSupers()
	for _, c := range wrongSupers() {
		out = append(out, c.super)
	}
	return out
}

func anyName(r *rand.Rand) string {
	name := make([]byte, 1+r.Intn(6))
	for i := range name {
		name[i] = byte('a' + r.Intn(26))
	}
	return string(name)
}

func anySuper(r *rand.Rand) impl.Super {
	s := impl.Super{Gen: anyNumber(r, 1, 999998), Base: anyNumber(r, 0, 999999)}
	s.Pos, s.Target = anyNumber(r, s.Base, 999999), anyNumber(r, s.Base, 999999)
	for _, i := range r.Perm(54)[:r.Intn(21)] {
		s.Table = append(s.Table, 10+i)
	}
	names := map[string]bool{}
	for range r.Intn(5) {
		names[anyName(r)] = true
	}
	for name := range names {
		s.Marks = append(s.Marks, impl.Mark{Name: name, Pos: anyNumber(r, 0, 999999)})
	}
	slices.SortFunc(s.Marks, func(a, b impl.Mark) int { return strings.Compare(a.Name, b.Name) })
	return s
}

// slotsDisk has something in each sector, so that a write elsewhere is seen, and these texts in its slots.
func slotsDisk(first, second string) impl.Disk {
	d := filledDisk(0)
	d.Sure[0], d.Sure[1] = first, second
	return d
}

func mustCommit(t *testing.T, d impl.Disk, s impl.Super) impl.Disk {
	t.Helper()
	x, code := impl.CommitSuper(d, s)
	if code != impl.OK {
		t.Fatalf("CommitSuper of %v: code %d", s, code)
	}
	return x
}

func wantNewest(t *testing.T, d impl.Disk, want impl.Super, slot int, what string) {
	t.Helper()
	if s, at, code := impl.NewestSuper(d); code != impl.OK || at != slot || !alikeSuper(s, want) {
		t.Errorf("NewestSuper of %s = %v, slot %d, code %d, want %v, slot %d", what, s, at, code, want, slot)
	}
}

func wantNoNewest(t *testing.T, d impl.Disk, want int, what string) {
	t.Helper()
	if s, at, code := impl.NewestSuper(d); code != want || at != 0 || !zeroSuper(s) {
		t.Errorf("NewestSuper of %s = %v, slot %d, code %d, want code %d alone", what, s, at, code, want)
	}
}
