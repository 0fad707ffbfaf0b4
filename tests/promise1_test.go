package tests

import (
	"math"
	"slices"
	"strings"
	"testing"

	"loop.example/g00608/impl"
)

type diskCall struct {
	name string
	do   func(d impl.Disk) (impl.Disk, int)
}

// diskCalls are calls that answer a disk, one for each code and way of answering.
func diskCalls(keeps []bool) []diskCall {
	write := func(name string, at int, text string) diskCall {
		return diskCall{name, func(d impl.Disk) (impl.Disk, int) { return impl.WriteSector(d, at, text) }}
	}
	return []diskCall{
		write("write", 5, "text"),
		write("write out of range", 64, "text"),
		write("write too much", 5, strings.Repeat("t", 301)),
		write("write beyond MaxText", 5, strings.Repeat("t", 65537)),
		{"flush", impl.FlushDisk},
		{"crash", func(d impl.Disk) (impl.Disk, int) { return impl.CrashDisk(d, keeps) }},
		{"crash without keeps", func(d impl.Disk) (impl.Disk, int) { return impl.CrashDisk(d, nil) }},
	}
}

// Promise 1: no call changes an argument, nor what stands behind its end.
func TestArgumentsStayAsTheyWere(t *testing.T) {
	for _, c := range append(rightDisks(), wrongDisks()...) {
		keeps := guarded([]bool{false, false, false}, true)
		for _, call := range diskCalls(keeps) {
			d := guardedDisk(c.disk)
			call.do(d)
			if !wholeDisk(d, c.disk) {
				t.Errorf("%s of %q changes its disk", call.name, c.name)
			}
		}
		if !wholeList(keeps, []bool{false, false, false}, true) {
			t.Errorf("CrashDisk of %q changes keeps", c.name)
		}
		d, e := guardedDisk(c.disk), guardedDisk(c.disk)
		impl.DiskOK(d)
		impl.ReadSector(d, 5)
		impl.SameDisk(d, e)
		if !wholeDisk(d, c.disk) || !wholeDisk(e, c.disk) {
			t.Errorf("a call that reads %q changes it", c.name)
		}
	}
}

// Promise 1: an answer is new memory, also where it is what was given.
func TestAnswersShareNoMemory(t *testing.T) {
	for _, c := range rightDisks() {
		for _, call := range diskCalls([]bool{true, false}) {
			d := guardedDisk(c.disk)
			answer, _ := call.do(d)
			before := copyDisk(answer)
			scribbleDisk(answer)
			if !wholeDisk(d, c.disk) {
				t.Errorf("a write into the answer of %s of %q is seen in the argument", call.name, c.name)
			}
			answer, _ = call.do(d)
			scribbleDisk(d)
			if !alikeDisk(answer, before) {
				t.Errorf("a write into the argument of %s of %q is seen in the answer", call.name, c.name)
			}
		}
	}
}

func TestNewDisksShareNoMemory(t *testing.T) {
	scribbleDisk(impl.NewDisk())
	if d := impl.NewDisk(); !slices.Equal(d.Sure, make([]string, 64)) || len(d.Cache) != 0 {
		t.Error("a write into one new disk is seen in the next one")
	}
}

// Promise 1: an answer does not depend on what was called ahead.
func TestAlikeArgumentsHaveAlikeAnswers(t *testing.T) {
	type answer struct {
		disk impl.Disk
		code int
	}
	disks := append(rightDisks(), wrongDisks()...)
	ask := func(turned bool) [][]answer {
		calls := diskCalls([]bool{true, true, false})
		out := make([][]answer, len(disks))
		for n := range disks {
			i := n
			if turned {
				i = len(disks) - 1 - n
			}
			out[i] = make([]answer, len(calls))
			for m := range calls {
				j := m
				if turned {
					j = len(calls) - 1 - m
				}
				x, code := calls[j].do(disks[i].disk)
				out[i][j] = answer{x, code}
			}
		}
		return out
	}
	first, second := ask(false), ask(true)
	for i := range first {
		for j, a := range first[i] {
			if b := second[i][j]; a.code != b.code || !alikeDisk(a.disk, b.disk) {
				t.Errorf("call %d of %q has two answers", j, disks[i].name)
			}
		}
	}
}

// Nil and an empty list are one value: both lead to the same answers.
func TestNilAndEmptyAreAlike(t *testing.T) {
	a := impl.Disk{Sure: make([]string, 64)}
	b := impl.Disk{Sure: make([]string, 64), Cache: []impl.Write{}}
	for _, call := range diskCalls(nil) {
		x, m := call.do(a)
		y, n := call.do(b)
		if m != n || !impl.SameDisk(x, y) {
			t.Errorf("%s tells a nil cache and an empty one apart", call.name)
		}
	}
	d := filledDisk(9)
	x, m := impl.CrashDisk(d, nil)
	y, n := impl.CrashDisk(d, []bool{})
	if m != n || !impl.SameDisk(x, y) {
		t.Error("CrashDisk tells nil keeps and empty ones apart")
	}
}

// Promise 1: no call panics, whatever it is given; a panic fails the test by itself.
func TestNoCallPanics(t *testing.T) {
	numbers := []int{math.MinInt, math.MinInt + 1, -65, -1, 0, 1, 19, 20, 63, 64, 300, 1 << 31, 1 << 32, math.MaxInt - 1, math.MaxInt}
	texts := []string{"", "a", "\x00", "\xff\xfe", strings.Repeat("z", 300), strings.Repeat("z", 301), strings.Repeat("z", 70000)}
	keeps := [][]bool{nil, {}, {true}, make([]bool, 4096), make([]bool, 4097)}
	for _, n := range numbers {
		impl.CodeWord(n)
	}
	for _, text := range texts {
		impl.NameOK(text)
		impl.CodeOf(text)
	}
	disks := append(rightDisks(), wrongDisks()...)
	for _, c := range disks {
		impl.DiskOK(c.disk)
		impl.FlushDisk(c.disk)
		for _, other := range disks {
			impl.SameDisk(c.disk, other.disk)
		}
		for _, k := range keeps {
			impl.CrashDisk(c.disk, k)
		}
		for _, n := range numbers {
			impl.ReadSector(c.disk, n)
			for _, text := range texts {
				impl.WriteSector(c.disk, n, text)
			}
		}
	}
}
