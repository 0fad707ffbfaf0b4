package tests

import (
	"fmt"
	"math"
	"math/big"
	"math/rand"
	"slices"

	"loop.example/g00608/impl"
)

var guardChange = impl.Change{Block: -7, New: -8, Old: -9}

// plainSum is the sum told another way: 7 and the bytes are the digits, to the base 31, of a number that may be long.
func plainSum(t string) int {
	n := big.NewInt(7)
	for i := 0; i < len(t); i++ {
		n.Mul(n, big.NewInt(31))
		n.Add(n, big.NewInt(int64(t[i])))
	}
	return int(n.Mod(n, big.NewInt(997)).Int64())
}

// seal puts a text's sum behind it, without the help of the program.
func seal(body string) string {
	return fmt.Sprintf("%s%03d", body, plainSum(body))
}

func sixDigits(numbers ...int) string {
	t := ""
	for _, n := range numbers {
		t += fmt.Sprintf("%06d", n)
	}
	return t
}

func plainSegText(g impl.Seg) string {
	t := sixDigits(g.From, g.To, g.Time)
	for _, c := range g.Changes {
		t += sixDigits(c.Block, c.New, c.Old)
	}
	return seal(t)
}

func plainFrameText(f impl.Frame) string {
	return seal(sixDigits(f.Pos, f.Block, f.Value, f.Time))
}

func alikeSeg(a, b impl.Seg) bool {
	return a.From == b.From && a.To == b.To && a.Time == b.Time && slices.Equal(a.Changes, b.Changes)
}

func zeroSeg(g impl.Seg) bool {
	return alikeSeg(g, impl.Seg{})
}

func copySeg(g impl.Seg) impl.Seg {
	g.Changes = slices.Clone(g.Changes)
	return g
}

func guardedSeg(g impl.Seg) impl.Seg {
	g.Changes = guarded(g.Changes, guardChange)
	return g
}

func wholeSeg(g, want impl.Seg) bool {
	return alikeSeg(g, want) && wholeList(g.Changes, want.Changes, guardChange)
}

// eachBlock has a change of each block.
func eachBlock(first, second int) []impl.Change {
	var out []impl.Change
	for block := range 8 {
		out = append(out, impl.Change{Block: block, New: first, Old: second})
	}
	return out
}

func rightSegs() []impl.Seg {
	return []impl.Seg{
		{From: 0, To: 1},
		{From: 0, To: 1, Changes: []impl.Change{}},
		{From: 0, To: 999999, Time: 999999},
		{From: 999998, To: 999999, Time: 0},
		{From: 3, To: 5, Time: 77, Changes: []impl.Change{{Block: 1, New: 9, Old: 8}, {Block: 7, New: 999999, Old: 0}}},
		{From: 3, To: 4, Time: 77, Changes: []impl.Change{{Block: 0}}},
		{From: 3, To: 4, Time: 77, Changes: []impl.Change{{Block: 7, New: 5, Old: 5}}},
		{From: 10, To: 1000, Time: 100000, Changes: []impl.Change{{Block: 0, New: 10, Old: 100}, {Block: 1, New: 1000, Old: 10000}, {Block: 7, New: 100000, Old: 1}}},
		{From: 0, To: 1, Time: 0, Changes: eachBlock(0, 0)},
		{From: 999998, To: 999999, Time: 999999, Changes: eachBlock(999999, 999999)},
	}
}

type namedSeg struct {
	name string
	seg  impl.Seg
}

func wrongSegs() []namedSeg {
	with := func(changes ...impl.Change) impl.Seg { return impl.Seg{To: 1, Changes: changes} }
	return []namedSeg{
		{"zero", impl.Seg{}},
		{"from where it ends", impl.Seg{From: 5, To: 5}},
		{"from the last position to it", impl.Seg{From: 999999, To: 999999}},
		{"back", impl.Seg{From: 5, To: 4}},
		{"from below 0", impl.Seg{From: -1, To: 5}},
		{"from and to below 0", impl.Seg{From: -2, To: -1}},
		{"from far below", impl.Seg{From: math.MinInt, To: 5}},
		{"to beyond MaxPos", impl.Seg{To: 1000000}},
		{"both beyond MaxPos", impl.Seg{From: 1000000, To: 1000001}},
		{"to far beyond", impl.Seg{To: math.MaxInt}},
		{"all the way", impl.Seg{From: math.MinInt, To: math.MaxInt}},
		{"time below 0", impl.Seg{To: 1, Time: -1}},
		{"time beyond MaxTime", impl.Seg{To: 1, Time: 1000000}},
		{"time far below", impl.Seg{To: 1, Time: math.MinInt}},
		{"time far beyond", impl.Seg{To: 1, Time: math.MaxInt}},
		{"block -1", with(impl.Change{Block: -1})},
		{"block 8", with(impl.Change{Block: 8})},
		{"last block 8", with(impl.Change{Block: 6}, impl.Change{Block: 7}, impl.Change{Block: 8})},
		{"new below 0", with(impl.Change{New: -1})},
		{"new beyond MaxValue", with(impl.Change{New: 1000000})},
		{"old below 0", with(impl.Change{Old: -1})},
		{"old beyond MaxValue", with(impl.Change{Old: 1000000})},
		{"second value beyond MaxValue", with(impl.Change{Block: 1}, impl.Change{Block: 2, Old: math.MaxInt})},
		{"blocks fall", with(impl.Change{Block: 2}, impl.Change{Block: 1})},
		{"a block twice", with(impl.Change{Block: 1}, impl.Change{Block: 1, New: 1})},
		{"blocks fall at the end", with(impl.Change{Block: 0}, impl.Change{Block: 5}, impl.Change{Block: 4})},
		{"nine changes", with(append(eachBlock(1, 2), impl.Change{Block: 7})...)},
		{"changes beyond MaxList", with(make([]impl.Change, 4097)...)},
	}
}

func rightFrames() []impl.Frame {
	return []impl.Frame{
		{Pos: 1},
		{Pos: 1, Block: 7},
		{Pos: 999999, Block: 7, Value: 999999, Time: 999999},
		{Pos: 4, Block: 2, Value: 50, Time: 6},
		{Pos: 100000, Block: 1, Value: 10, Time: 1000},
		{Pos: 10, Block: 0, Value: 100000, Time: 0},
	}
}

type namedFrame struct {
	name  string
	frame impl.Frame
}

func wrongFrames() []namedFrame {
	return []namedFrame{
		{"zero", impl.Frame{}},
		{"position 0", impl.Frame{Pos: 0, Block: 1, Value: 1, Time: 1}},
		{"position -1", impl.Frame{Pos: -1}},
		{"position beyond MaxPos", impl.Frame{Pos: 1000000}},
		{"position far below", impl.Frame{Pos: math.MinInt}},
		{"position far beyond", impl.Frame{Pos: math.MaxInt}},
		{"block -1", impl.Frame{Pos: 1, Block: -1}},
		{"block 8", impl.Frame{Pos: 1, Block: 8}},
		{"block far beyond", impl.Frame{Pos: 1, Block: math.MaxInt}},
		{"value -1", impl.Frame{Pos: 1, Value: -1}},
		{"value beyond MaxValue", impl.Frame{Pos: 1, Value: 1000000}},
		{"value far below", impl.Frame{Pos: 1, Value: math.MinInt}},
		{"time -1", impl.Frame{Pos: 1, Time: -1}},
		{"time beyond MaxTime", impl.Frame{Pos: 1, Time: 1000000}},
		{"time far beyond", impl.Frame{Pos: 1, Time: math.MaxInt}},
	}
}

func anyNumber(r *rand.Rand, low, high int) int {
	if high > low+9 && r.Intn(3) == 0 {
		high = low + 9
	}
	return low + r.Intn(high-low+1)
}

func anySeg(r *rand.Rand) impl.Seg {
	g := impl.Seg{From: anyNumber(r, 0, 999998), Time: anyNumber(r, 0, 999999)}
	g.To = anyNumber(r, g.From+1, 999999)
	for block := range 8 {
		if r.Intn(2) == 0 {
			g.Changes = append(g.Changes, impl.Change{Block: block, New: anyNumber(r, 0, 999999), Old: anyNumber(r, 0, 999999)})
		}
	}
	return g
}

func anyFrame(r *rand.Rand) impl.Frame {
	return impl.Frame{Pos: anyNumber(r, 1, 999999), Block: r.Intn(8), Value: anyNumber(r, 0, 999999), Time: anyNumber(r, 0, 999999)}
}
