package tests

import (
	"math"
	"math/rand"
	"slices"
	"testing"

	"loop.example/g00608/impl"
)

const guardValue = -77

func plainContent() []int {
	return []int{10, 11, 12, 13, 14, 15, 16, 17}
}

func rightContents() [][]int {
	return [][]int{
		make([]int, 8),
		plainContent(),
		slices.Repeat([]int{999999}, 8),
		{0, 999999, 0, 999999, 1, 999998, 7, 8},
	}
}

type namedContent struct {
	name    string
	content []int
}

// wrongContents are not beyond MaxList; longContents are.
func wrongContents() []namedContent {
	out := []namedContent{
		{"nil", nil},
		{"empty", []int{}},
		{"one value", []int{1}},
		{"a block short", make([]int, 7)},
		{"a block over", make([]int, 9)},
		{"two contents", make([]int, 16)},
		{"of MaxList values", make([]int, 4096)},
	}
	for block := range 8 {
		for _, v := range []int{math.MinInt, -1, 1000000, math.MaxInt} {
			c := plainContent()
			c[block] = v
			out = append(out, namedContent{"a value out of bounds", c})
		}
	}
	return out
}

func longContents() []namedContent {
	return []namedContent{
		{"beyond MaxList", make([]int, 4097)},
		{"beyond MaxList, of wrong values", slices.Repeat([]int{-1}, 4097)},
		{"far beyond MaxList", make([]int, 100000)},
	}
}

func anyContent(r *rand.Rand) []int {
	c := make([]int, 8)
	for i := range c {
		c[i] = anyNumber(r, 0, 999999)
	}
	return c
}

// plainTurn is Forward or Backward told another way: block by block, looking for its change.
func plainTurn(c []int, g impl.Seg, forwards bool) []int {
	var out []int
	for block, v := range c {
		for _, change := range g.Changes {
			if change.Block == block && forwards {
				v = change.New
			} else if change.Block == block {
				v = change.Old
			}
		}
		out = append(out, v)
	}
	return out
}

// segOn is a segment over some blocks that was made of the content c.
func segOn(r *rand.Rand, c []int, from, time int) impl.Seg {
	g := impl.Seg{From: from, To: from + 1 + r.Intn(3), Time: time}
	for block := range c {
		if r.Intn(3) == 0 {
			g.Changes = append(g.Changes, impl.Change{Block: block, New: anyNumber(r, 0, 999999), Old: c[block]})
		}
	}
	return g
}

func mustForward(t *testing.T, c []int, g impl.Seg) []int {
	t.Helper()
	out, code := impl.Forward(c, g)
	if code != impl.OK {
		t.Fatalf("Forward of %v over %v: code %d", c, g, code)
	}
	return out
}

func mustBackward(t *testing.T, c []int, g impl.Seg) []int {
	t.Helper()
	out, code := impl.Backward(c, g)
	if code != impl.OK {
		t.Fatalf("Backward of %v over %v: code %d", c, g, code)
	}
	return out
}

func mustMerge(t *testing.T, a, b impl.Seg) impl.Seg {
	t.Helper()
	g, code := impl.MergeSegs(a, b)
	if code != impl.OK {
		t.Fatalf("MergeSegs of %v and %v: code %d", a, b, code)
	}
	return g
}

func mustSegOf(t *testing.T, c []int, f impl.Frame) impl.Seg {
	t.Helper()
	g, code := impl.SegOf(c, f)
	if code != impl.OK {
		t.Fatalf("SegOf %v and %v: code %d", c, f, code)
	}
	return g
}
