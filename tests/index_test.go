package tests

import (
	"math"
	"math/rand"
	"slices"
	"testing"

	"loop.example/g00608/impl"
)

// The answers are written out here, so that a fault of the tales is seen.
func TestIndexByHand(t *testing.T) {
	v := impl.Vault{
		Super: impl.Super{Gen: 3, Base: 2, Pos: 3, Target: 9, Table: []int{20, 11, 50, 12}, Marks: []impl.Mark{{Name: "a", Pos: 5}, {Name: "ab", Pos: 2}, {Name: "noon", Pos: 5}, {Name: "z", Pos: 10}}},
		Segs: []impl.Seg{
			{From: 2, To: 3, Time: 4, Changes: change(2, 50, 12)},
			{From: 3, To: 5, Time: 4, Changes: change(0, 20, 10)},
			{From: 5, To: 9, Time: 7, Changes: change(0, 30, 20)},
			{From: 9, To: 10, Time: 20},
		},
		Image: []int{20, 11, 50, 13, 14, 15, 16, 17},
	}
	for n, want := range []bool{false, false, true, true, false, true, false, false, false, true, true, false, false} {
		wantRetained(t, v, n, want)
	}
	for _, c := range [][2]int{{0, 2}, {1, 2}, {3, 2}, {4, 5}, {5, 5}, {6, 5}, {7, 9}, {8, 9}, {19, 9}, {20, 10}, {21, 10}, {999999, 10}} {
		wantAtTime(t, v, c[0], c[1])
	}
	for _, m := range []impl.Mark{{Name: "a", Pos: 5}, {Name: "ab", Pos: 2}, {Name: "noon", Pos: 5}, {Name: "z", Pos: 10}} {
		wantMark(t, v, m)
	}
	for _, name := range []string{"", "b", "aa", "abc", "noo", "noons", "A", "zz"} {
		wantNoMark(t, v, name, impl.ErrNone)
	}
}

// Promise 7, wherever the image is: what is retained, where each time leads, and each mark by its name.
func TestIndex(t *testing.T) {
	for _, a := range append(tales(), markTales()...) {
		for _, b := range a.vaults() {
			wantIndex(t, b)
		}
	}
}

func TestAnyIndex(t *testing.T) {
	r := rand.New(rand.NewSource(31))
	for range 1000 {
		a := anyTale(r).anyMove(r)
		wantIndex(t, a)
		wantAtTime(t, a.vault, a.vault.Super.Base, plainAtTime(a.vault, a.vault.Super.Base))
	}
}

// Segments of one time are passed as one: there is the last of them by then.
func TestSegmentsOfOneTime(t *testing.T) {
	for _, time := range []int{0, 1, 50, 999999} {
		for n := range 20 {
			a := newTale(impl.Super{Gen: 1, Base: 100}, plainContent())
			for i := range n {
				a = a.with(10+i, 102+2*i, time, map[int]int{i % 8: i})
			}
			wantAtTime(t, a.vault, time, a.tip())
			wantAtTime(t, a.vault, 999999, a.tip())
			if time > 0 {
				wantAtTime(t, a.vault, time-1, 100)
				wantAtTime(t, a.vault, 0, 100)
			}
		}
	}
}

// Without a segment there is Base at any time.
func TestTimesWithoutASegment(t *testing.T) {
	for _, base := range []int{0, 1, 77, 999999} {
		v := newTale(impl.Super{Gen: 1, Base: base}, plainContent()).vault
		for _, time := range []int{0, 1, 76, 77, 78, 999998, 999999} {
			wantAtTime(t, v, time, base)
		}
		for _, n := range []int{0, 1, 76, 77, 78, 999998, 999999} {
			wantRetained(t, v, n, n == base)
		}
	}
}

// Promise 7, write by write: at each time there is the last write that had come by then.
func TestTimesOfRunsOfWrites(t *testing.T) {
	r := rand.New(rand.NewSource(32))
	for range 60 {
		d, clock := vaultDisk(bareTale().vault), 0
		var times []int
		for i := range 1 + r.Intn(20) {
			clock += r.Intn(4)
			times = append(times, clock)
			d = mustAppend(t, d, impl.Frame{Pos: i + 1, Block: r.Intn(8), Value: r.Intn(5), Time: clock})
		}
		v := mustLoad(t, d)
		for time := range clock + 3 {
			by := 0
			for _, c := range times {
				if c <= time {
					by++
				}
			}
			wantAtTime(t, v, time, by)
		}
	}
}

func TestTimesOutOfRange(t *testing.T) {
	for _, a := range tales() {
		for _, b := range a.vaults() {
			for _, time := range oddNumbers() {
				if n, code := impl.AtTime(b.vault, time); code != impl.ErrRange || n != 0 {
					t.Errorf("AtTime %d of %v = %d, code %d, want ErrRange alone", time, b.vault, n, code)
				}
			}
		}
	}
}

// Only a mark's whole name finds it; what is no name of a mark finds none.
func TestMarkPosOfNoMark(t *testing.T) {
	for _, a := range markTales() {
		for _, m := range a.vault.Super.Marks {
			for _, name := range []string{m.Name[:len(m.Name)-1], m.Name + "a", m.Name + "\x00", m.Name + "=", " " + m.Name, m.Name + " ", "M"} {
				if !slices.ContainsFunc(a.vault.Super.Marks, func(o impl.Mark) bool { return o.Name == name }) {
					wantNoMark(t, a.vault, name, impl.ErrNone)
				}
			}
		}
		for _, name := range wrongMarkNames() {
			wantNoMark(t, a.vault, name, impl.ErrNone)
		}
	}
}

// A name beyond MaxText comes ahead of all else, also of a vault that is not right.
func TestMarkPosOfLongNames(t *testing.T) {
	for _, name := range longNames() {
		for _, a := range markTales() {
			wantNoMark(t, a.vault, name, impl.ErrLong)
		}
		for _, c := range wrongVaults() {
			wantNoMark(t, c.vault, name, impl.ErrLong)
		}
	}
}

// ErrBad comes ahead of ErrRange and of ErrNone.
func TestIndexOfWrongVaults(t *testing.T) {
	for _, c := range wrongVaults() {
		v := c.vault
		for _, n := range []int{v.Super.Base, v.Super.Pos, 0, 1, 5, 999999, -1, 1000000, math.MinInt, math.MaxInt} {
			if got, code := impl.IsRetained(v, n); code != impl.ErrBad || got {
				t.Errorf("IsRetained %d of %s = %t, code %d, want ErrBad alone", n, c.name, got, code)
			}
			if got, code := impl.AtTime(v, n); code != impl.ErrBad || got != 0 {
				t.Errorf("AtTime %d of %s = %d, code %d, want ErrBad alone", n, c.name, got, code)
			}
		}
		for _, name := range []string{"a", "noon", "b", "", "A", wrongMarkNames()[3]} {
			wantNoMark(t, v, name, impl.ErrBad)
		}
	}
}
