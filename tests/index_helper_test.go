package tests

import (
	"math"
	"math/rand"
	"slices"
	"strings"
	"testing"

	"loop.example/g00608/impl"
)

// marked is the tale with other marks.
func (a tale) marked(marks ...impl.Mark) tale {
	v := copyVault(a.vault)
	v.Super.Marks = slices.Clone(marks)
	return a.in(v)
}

// withGen is the tale with another Gen.
func (a tale) withGen(gen int) tale {
	v := copyVault(a.vault)
	v.Super.Gen = gen
	return a.in(v)
}

// remarked is the tale behind a change of its marks.
func (a tale) remarked(marks []impl.Mark) tale {
	return a.marked(marks...).withGen(a.vault.Super.Gen + 1)
}

// plainSet puts a mark to where its name belongs, without the help of the program.
func plainSet(marks []impl.Mark, m impl.Mark) []impl.Mark {
	i := 0
	for i < len(marks) && marks[i].Name < m.Name {
		i++
	}
	return slices.Insert(slices.Clone(marks), i, m)
}

func plainDrop(marks []impl.Mark, name string) []impl.Mark {
	return slices.DeleteFunc(slices.Clone(marks), func(m impl.Mark) bool { return m.Name == name })
}

// plainAtTime goes from the end to the first segment that was there by then.
func plainAtTime(v impl.Vault, t int) int {
	for i := len(v.Segs) - 1; i >= 0; i-- {
		if v.Segs[i].Time <= t {
			return v.Segs[i].To
		}
	}
	return v.Super.Base
}

// markTales have no mark up to four, some of them at the same position, one at Base and one at the tip.
func markTales() []tale {
	almost := fullTale()
	return []tale{
		bareTale(),
		bareTale().marked(marksOf(0, "m", "n")...),
		plainTale().marked(),
		plainTale().marked(marksOf(5, "m")...),
		plainTale().marked(impl.Mark{Name: "a", Pos: 10}, impl.Mark{Name: "m", Pos: 2}),
		plainTale().marked(impl.Mark{Name: "b", Pos: 3}, impl.Mark{Name: "bb", Pos: 3}, impl.Mark{Name: "m", Pos: 9}),
		plainTale().marked(impl.Mark{Name: "b", Pos: 10}, impl.Mark{Name: "bb", Pos: 9}, impl.Mark{Name: "m", Pos: 5}, impl.Mark{Name: "zzzzzz", Pos: 2}),
		almost.marked(almost.vault.Super.Marks[:3]...),
		fullTale(),
		lastTale().withGen(999998),
	}
}

// newNames are names of marks that come ahead of, between and behind those of the tales.
func newNames() []string {
	return []string{"aa", "abcdef", "ba", "bba", "cc", "l", "mm", "x", "zzzzzy"}
}

// wrongMarkNames are no names of marks.
func wrongMarkNames() []string {
	return []string{
		"", "abcdefg", strings.Repeat("a", 40), strings.Repeat("m", 65536), "A", "Z", "_", "1", "0", "a1", "1a", "aB", "a_", "a b", " a", "a ", "a\n", "`", "{", "a=", "a=1", "a,b", "a|",
		"\x00", "a\x00", "a\xff", "é", "mé",
	}
}

// longNames are beyond MaxText.
func longNames() []string {
	return []string{strings.Repeat("a", 65537), strings.Repeat("\xff", 65537), strings.Repeat("m", 200000)}
}

// oddNumbers are no positions and no times.
func oddNumbers() []int {
	return []int{math.MinInt, math.MinInt + 1, -1000000, -2, -1, 1000000, 1 << 32, math.MaxInt - 1, math.MaxInt}
}

// nearNumbers are numbers from 0 to 999999 about each of the list, and the bounds.
func nearNumbers(list []int) []int {
	out := []int{0, 1, 999998, 999999}
	for _, n := range list {
		for _, m := range []int{n - 1, n, n + 1} {
			if m >= 0 && m <= 999999 {
				out = append(out, m)
			}
		}
	}
	return out
}

func timesOf(v impl.Vault) []int {
	var out []int
	for _, g := range v.Segs {
		out = append(out, g.Time)
	}
	return out
}

func wantRetained(t *testing.T, v impl.Vault, n int, want bool) {
	t.Helper()
	if got, code := impl.IsRetained(v, n); code != impl.OK || got != want {
		t.Errorf("IsRetained %d of %v = %t, code %d, want %t", n, v, got, code, want)
	}
}

func wantAtTime(t *testing.T, v impl.Vault, time, want int) {
	t.Helper()
	if n, code := impl.AtTime(v, time); code != impl.OK || n != want {
		t.Errorf("AtTime %d of %v = %d, code %d, want %d", time, v, n, code, want)
	}
}

func wantMark(t *testing.T, v impl.Vault, m impl.Mark) {
	t.Helper()
	if n, code := impl.MarkPos(v, m.Name); code != impl.OK || n != m.Pos {
		t.Errorf("MarkPos %q of %v = %d, code %d, want %d", m.Name, v, n, code, m.Pos)
	}
}

func wantNoMark(t *testing.T, v impl.Vault, name string, want int) {
	t.Helper()
	if n, code := impl.MarkPos(v, name); code != want || n != 0 {
		t.Errorf("MarkPos %.50q of %v = %d, code %d, want code %d alone", name, v, n, code, want)
	}
}

// wantIndex asks of a vault all that the chapter of marks and times tells of it.
func wantIndex(t *testing.T, a tale) {
	t.Helper()
	for _, n := range append(nearNumbers(a.at), oddNumbers()...) {
		wantRetained(t, a.vault, n, slices.Contains(a.at, n))
	}
	for _, time := range nearNumbers(timesOf(a.vault)) {
		wantAtTime(t, a.vault, time, plainAtTime(a.vault, time))
	}
	for _, m := range a.vault.Super.Marks {
		wantMark(t, a.vault, m)
	}
	for _, name := range newNames() {
		if !slices.ContainsFunc(a.vault.Super.Marks, func(m impl.Mark) bool { return m.Name == name }) {
			wantNoMark(t, a.vault, name, impl.ErrNone)
		}
	}
}

func mustMark(t *testing.T, d impl.Disk, m impl.Mark) impl.Disk {
	t.Helper()
	x, code := impl.SetMark(d, m.Name, m.Pos)
	if code != impl.OK {
		t.Fatalf("SetMark of %v: code %d", m, code)
	}
	return x
}

func mustUnmark(t *testing.T, d impl.Disk, name string) impl.Disk {
	t.Helper()
	x, code := impl.DropMark(d, name)
	if code != impl.OK {
		t.Fatalf("DropMark of %q: code %d", name, code)
	}
	return x
}

// asGiven is the disk with a code that leaves it as it was, else zero.
func asGiven(d impl.Disk, asItWas bool) impl.Disk {
	if asItWas {
		return d
	}
	return impl.Disk{}
}

func wantNoSet(t *testing.T, d impl.Disk, m impl.Mark, want int, asItWas bool, what string) {
	t.Helper()
	if x, code := impl.SetMark(d, m.Name, m.Pos); code != want || !alikeDisk(x, asGiven(d, asItWas)) {
		t.Errorf("SetMark of %.50q at %d, %s: code %d, want %d, as it was: %t", m.Name, m.Pos, what, code, want, alikeDisk(x, d))
	}
}

func wantNoDrop(t *testing.T, d impl.Disk, name string, want int, asItWas bool, what string) {
	t.Helper()
	if x, code := impl.DropMark(d, name); code != want || !alikeDisk(x, asGiven(d, asItWas)) {
		t.Errorf("DropMark of %.50q, %s: code %d, want %d, as it was: %t", name, what, code, want, alikeDisk(x, d))
	}
}

func anyNewName(r *rand.Rand, marks []impl.Mark) string {
	for {
		name := anyName(r)
		if !slices.ContainsFunc(marks, func(m impl.Mark) bool { return m.Name == name }) {
			return name
		}
	}
}
