package tests

import (
	"math"
	"math/rand"
	"testing"

	"loop.example/g00608/impl"
)

// steps is a chain of n segments from base, one position each, without changes.
func steps(base, n int) []impl.Seg {
	var out []impl.Seg
	for i := range n {
		out = append(out, impl.Seg{From: base + i, To: base + i + 1})
	}
	return out
}

func TestChainsWithoutASegment(t *testing.T) {
	for _, base := range []int{0, 1, 3, 999998, 999999} {
		if !impl.ChainOK(base, nil) || !impl.ChainOK(base, []impl.Seg{}) {
			t.Errorf("ChainOK of no segment at %d is false", base)
		}
	}
	for _, base := range []int{math.MinInt, -1000000, -1, 1000000, 1000001, math.MaxInt} {
		if impl.ChainOK(base, nil) || impl.ChainOK(base, []impl.Seg{}) {
			t.Errorf("ChainOK of no segment at %d is true", base)
		}
	}
}

func change(block, value, old int) []impl.Change {
	return []impl.Change{{Block: block, New: value, Old: old}}
}

func TestChainsThatAreRight(t *testing.T) {
	cases := []struct {
		name string
		base int
		list []impl.Seg
	}{
		{"one segment", 3, []impl.Seg{{From: 3, To: 9, Time: 999999, Changes: eachBlock(5, 6)}}},
		{"one over all positions", 0, []impl.Seg{{From: 0, To: 999999}}},
		{"the last position", 999998, []impl.Seg{{From: 999998, To: 999999}}},
		{"times that stay", 3, []impl.Seg{{From: 3, To: 4, Time: 8}, {From: 4, To: 5, Time: 8}}},
		{"times that rise", 3, []impl.Seg{{From: 3, To: 4, Time: 0}, {From: 4, To: 5, Time: 1}, {From: 5, To: 9, Time: 999999}}},
		{"other blocks", 3, []impl.Seg{{From: 3, To: 4, Changes: change(2, 50, 12)}, {From: 4, To: 5, Changes: change(3, 60, 13)}}},
		{"one block", 3, []impl.Seg{{From: 3, To: 4, Changes: change(2, 50, 12)}, {From: 4, To: 5, Changes: change(2, 60, 50)}}},
		{"a block that another stands between", 3, []impl.Seg{
			{From: 3, To: 4, Changes: change(2, 50, 12)}, {From: 4, To: 5, Changes: change(3, 9, 8)}, {From: 5, To: 6}, {From: 6, To: 8, Changes: change(2, 60, 50)},
		}},
		{"a value that comes back", 3, []impl.Seg{
			{From: 3, To: 4, Changes: change(2, 50, 12)}, {From: 4, To: 5, Changes: change(2, 12, 50)}, {From: 5, To: 6, Changes: change(2, 50, 12)},
		}},
		{"each block of each", 0, []impl.Seg{{From: 0, To: 1, Changes: eachBlock(2, 1)}, {From: 1, To: 2, Changes: eachBlock(3, 2)}}},
		{"MaxList segments", 7, steps(7, 4096)},
	}
	for _, c := range cases {
		if !impl.ChainOK(c.base, c.list) {
			t.Errorf("ChainOK of %s is false", c.name)
		}
	}
}

func TestChainsThatAreNot(t *testing.T) {
	cases := []struct {
		name string
		base int
		list []impl.Seg
	}{
		{"begins behind base", 3, []impl.Seg{{From: 4, To: 5}}},
		{"begins ahead of base", 3, []impl.Seg{{From: 2, To: 3}}},
		{"base out of bounds", -1, []impl.Seg{{From: 0, To: 1}}},
		{"base and beginning below 0", -1, []impl.Seg{{From: -1, To: 1}}},
		{"base and beginning beyond MaxPos", 1000000, []impl.Seg{{From: 1000000, To: 1000001}}},
		{"end beyond MaxPos", 999999, []impl.Seg{{From: 999999, To: 1000000}}},
		{"a gap", 3, []impl.Seg{{From: 3, To: 4}, {From: 5, To: 6}}},
		{"one over the other", 3, []impl.Seg{{From: 3, To: 5}, {From: 4, To: 6}}},
		{"one twice", 3, []impl.Seg{{From: 3, To: 4}, {From: 3, To: 4}}},
		{"the other way round", 3, []impl.Seg{{From: 4, To: 5}, {From: 3, To: 4}}},
		{"a gap at the end", 0, append(steps(0, 5), impl.Seg{From: 6, To: 7})},
		{"times fall", 3, []impl.Seg{{From: 3, To: 4, Time: 8}, {From: 4, To: 5, Time: 7}}},
		{"times fall behind one without a change", 3, []impl.Seg{{From: 3, To: 4, Time: 0}, {From: 4, To: 5, Time: 9}, {From: 5, To: 6, Time: 8}}},
		{"what was old was not new ahead", 3, []impl.Seg{{From: 3, To: 4, Changes: change(2, 50, 12)}, {From: 4, To: 5, Changes: change(2, 60, 12)}}},
		{"what was old was new, not last", 3, []impl.Seg{
			{From: 3, To: 4, Changes: change(2, 50, 12)}, {From: 4, To: 5, Changes: change(2, 60, 50)}, {From: 5, To: 6, Changes: change(2, 70, 50)},
		}},
		{"far ahead another was new", 3, []impl.Seg{
			{From: 3, To: 4, Changes: change(2, 50, 12)}, {From: 4, To: 5, Changes: change(3, 9, 8)}, {From: 5, To: 6}, {From: 6, To: 8, Changes: change(2, 60, 51)},
		}},
		{"new ahead was a nought", 3, []impl.Seg{{From: 3, To: 4, Changes: change(0, 0, 1)}, {From: 4, To: 5, Changes: change(0, 2, 1)}}},
		{"the last block alone is wrong", 0, []impl.Seg{
			{From: 0, To: 1, Changes: eachBlock(2, 1)},
			{From: 1, To: 2, Changes: append(eachBlock(3, 2)[:7], impl.Change{Block: 7, New: 3, Old: 1})},
		}},
		{"beyond MaxList", 7, steps(7, 4097)},
		{"far beyond MaxList", 0, steps(0, 20000)},
	}
	for _, c := range cases {
		if impl.ChainOK(c.base, c.list) {
			t.Errorf("ChainOK of %s is true", c.name)
		}
	}
	for _, c := range wrongSegs() {
		if impl.ChainOK(c.seg.From, []impl.Seg{c.seg}) {
			t.Errorf("ChainOK of a segment, %s, is true", c.name)
		}
		if impl.ChainOK(c.seg.From-1, []impl.Seg{{From: c.seg.From - 1, To: c.seg.From}, c.seg}) {
			t.Errorf("ChainOK of a second segment, %s, is true", c.name)
		}
		if impl.ChainOK(c.seg.From, []impl.Seg{c.seg, {From: c.seg.To, To: c.seg.To + 1, Time: 999999}}) {
			t.Errorf("ChainOK of a segment with one behind, %s, is true", c.name)
		}
	}
}

// What was made of contents one behind the other is a chain; with one number changed by one it is none.
func TestChainsOfContents(t *testing.T) {
	r := rand.New(rand.NewSource(9))
	for range 1000 {
		at, pos := anyContent(r), 500+r.Intn(100)
		base, seen := pos, map[int]bool{}
		var all []impl.Seg
		for i := range 5 {
			g := segOn(r, at, pos, 10*i)
			all = append(all, g)
			at, pos = mustForward(t, at, g), g.To
		}
		if !impl.ChainOK(base, all) || impl.ChainOK(base-1, all) || impl.ChainOK(base+1, all) || impl.ChainOK(base, all[1:]) {
			t.Fatalf("ChainOK of %v", all)
		}
		for i, g := range all {
			for j, c := range g.Changes {
				list := append([]impl.Seg{}, all...)
				list[i] = copySeg(g)
				list[i].Changes[j].Old = c.Old ^ 1
				if impl.ChainOK(base, list[:i+1]) == seen[c.Block] {
					t.Fatalf("ChainOK of %v with another old value of block %d in %d, changed ahead: %t", all, c.Block, i, seen[c.Block])
				}
			}
			for _, c := range g.Changes {
				seen[c.Block] = true
			}
		}
	}
}
