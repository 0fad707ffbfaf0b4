package tests

import (
	"math"
	"math/rand"
	"slices"
	"testing"

	"loop.example/g00608/impl"
)

func allContents() [][]int {
	out := rightContents()
	for _, c := range append(wrongContents(), longContents()...) {
		out = append(out, c.content)
	}
	return out
}

// Promise 1: no call changes a content or a segment, nor what stands behind their ends.
func TestSegmentArgumentsStayAsTheyWere(t *testing.T) {
	for i, content := range allContents() {
		for j, seg := range allSegs() {
			c, g := guarded(content, guardValue), guardedSeg(seg)
			impl.ContentOK(c)
			impl.Forward(c, g)
			impl.Backward(c, g)
			if !wholeList(c, content, guardValue) || !wholeSeg(g, seg) {
				t.Errorf("a turn of content %d over segment %d changes them", i, j)
			}
		}
		for _, f := range allFrames() {
			c := guarded(content, guardValue)
			impl.SegOf(c, f)
			if !wholeList(c, content, guardValue) {
				t.Errorf("SegOf changes content %d", i)
			}
		}
	}
	for i, first := range allSegs() {
		for j, second := range append(allSegs(), impl.Seg{From: first.To, To: 999999, Changes: change(2, 9, 8)}, impl.Seg{From: first.To, To: 999999, Changes: eachBlock(8, 9)}) {
			a, b := guardedSeg(first), guardedSeg(second)
			list := guardedSegs([]impl.Seg{a, b})
			impl.MergeSegs(a, b)
			impl.ChainOK(a.From, list)
			if !wholeSeg(a, first) || !wholeSeg(b, second) || !wholeSegs(list, []impl.Seg{first, second}) {
				t.Errorf("a call of segments %d and %d changes them", i, j)
			}
		}
	}
}

var guardSeg = impl.Seg{From: -5, To: -6, Time: -7}

func guardedSegs(list []impl.Seg) []impl.Seg {
	return guarded(list, guardSeg)
}

func wholeSegs(list, want []impl.Seg) bool {
	for _, g := range list[len(list):cap(list)] {
		if !alikeSeg(g, guardSeg) {
			return false
		}
	}
	return slices.EqualFunc(list, want, wholeSeg)
}

// Promise 1: an answer is new memory, also where nothing changes.
func TestSegmentAnswersShareNoMemory(t *testing.T) {
	for i, content := range rightContents() {
		for j, seg := range rightSegs() {
			c, g := slices.Clone(content), copySeg(seg)
			forward, back := mustForward(t, c, g), mustBackward(t, c, g)
			second := mustForward(t, c, g)
			want, wantBack := slices.Clone(forward), slices.Clone(back)
			scribble(forward, guardValue)
			if !slices.Equal(back, wantBack) || !slices.Equal(second, want) || !slices.Equal(c, content) || !alikeSeg(g, seg) {
				t.Errorf("a write into Forward's answer of content %d over segment %d is seen elsewhere", i, j)
			}
			scribble(back, guardValue)
			if !slices.Equal(second, want) || !slices.Equal(c, content) || !alikeSeg(g, seg) {
				t.Errorf("a write into Backward's answer of content %d over segment %d is seen elsewhere", i, j)
			}
		}
		f := impl.Frame{Pos: 1, Block: 3, Value: 4}
		c := slices.Clone(content)
		first, second := mustSegOf(t, c, f), mustSegOf(t, c, f)
		scribble(first.Changes, guardChange)
		if !slices.Equal(c, content) || !alikeSeg(second, mustSegOf(t, content, f)) || second.Changes[0] != (impl.Change{Block: 3, New: 4, Old: content[3]}) {
			t.Errorf("a write into SegOf's answer of content %d is seen elsewhere", i)
		}
	}
}

func TestMergedSegsShareNoMemory(t *testing.T) {
	lists := [][]impl.Change{nil, change(0, 5, 4), change(7, 5, 4), eachBlock(5, 4)}
	for _, first := range lists {
		for _, second := range lists {
			a := impl.Seg{From: 0, To: 1, Changes: slices.Clone(first)}
			b := impl.Seg{From: 1, To: 2, Changes: slices.Clone(second)}
			g, other := mustMerge(t, a, b), mustMerge(t, a, b)
			want := copySeg(g)
			scribble(g.Changes, guardChange)
			if !slices.Equal(a.Changes, first) || !slices.Equal(b.Changes, second) || !alikeSeg(other, want) {
				t.Errorf("a write into MergeSegs' answer of %v and %v is seen elsewhere", first, second)
			}
		}
	}
}

type segmentAnswer struct {
	forward, back, merged, made impl.Seg
	codes                       [4]int
	contentOK, chainOK          bool
}

// askSegments answers contents as segments' changes, so that all can be compared alike.
func askSegments(c []int, a, b impl.Seg, f impl.Frame) segmentAnswer {
	var out segmentAnswer
	var forward, back []int
	forward, out.codes[0] = impl.Forward(c, a)
	back, out.codes[1] = impl.Backward(c, a)
	out.merged, out.codes[2] = impl.MergeSegs(a, b)
	out.made, out.codes[3] = impl.SegOf(c, f)
	for i := range forward {
		out.forward.Changes = append(out.forward.Changes, impl.Change{Block: i, New: forward[i]})
	}
	for i := range back {
		out.back.Changes = append(out.back.Changes, impl.Change{Block: i, New: back[i]})
	}
	out.contentOK = impl.ContentOK(c)
	out.chainOK = impl.ChainOK(a.From, []impl.Seg{a, b})
	return out
}

func alikeSegmentAnswer(a, b segmentAnswer) bool {
	return alikeSeg(a.forward, b.forward) && alikeSeg(a.back, b.back) && alikeSeg(a.merged, b.merged) && alikeSeg(a.made, b.made) &&
		a.codes == b.codes && a.contentOK == b.contentOK && a.chainOK == b.chainOK
}

// Promise 1: alike arguments have alike answers, whatever was called ahead, and whatever stands behind their ends.
func TestAlikeSegmentArgumentsHaveAlikeAnswers(t *testing.T) {
	r := rand.New(rand.NewSource(10))
	contents, segs, frames := allContents(), allSegs(), allFrames()
	for range 3000 {
		c, a, b, f := contents[r.Intn(len(contents))], segs[r.Intn(len(segs))], segs[r.Intn(len(segs))], frames[r.Intn(len(frames))]
		if r.Intn(2) == 0 {
			b.From, b.To = a.To, 999999
		}
		first := askSegments(c, a, b, f)
		askSegments(plainContent(), impl.Seg{From: 1, To: 2, Changes: eachBlock(77, 78)}, impl.Seg{From: 2, To: 3, Changes: eachBlock(79, 77)}, impl.Frame{Pos: 8})
		second := askSegments(guarded(c, guardValue), guardedSeg(a), guardedSeg(b), f)
		if !alikeSegmentAnswer(first, second) {
			t.Fatalf("%.80v, %.80v, %.80v, %v have two answers", c, a, b, f)
		}
	}
}

// A merge goes over a map; its answer has one order all the same.
func TestMergeHasOneOrder(t *testing.T) {
	a := impl.Seg{From: 0, To: 1, Changes: []impl.Change{{Block: 1}, {Block: 3}, {Block: 5}, {Block: 7}}}
	b := impl.Seg{From: 1, To: 2, Changes: []impl.Change{{Block: 0}, {Block: 2}, {Block: 4}, {Block: 6}}}
	for range 300 {
		if g := mustMerge(t, a, b); !slices.Equal(g.Changes, eachBlock(0, 0)) {
			t.Fatalf("MergeSegs = %v", g)
		}
	}
}

func TestNilAndEmptyListsOfSegments(t *testing.T) {
	none, empty := impl.Seg{From: 0, To: 1}, impl.Seg{From: 0, To: 1, Changes: []impl.Change{}}
	next, nextEmpty := impl.Seg{From: 1, To: 2}, impl.Seg{From: 1, To: 2, Changes: []impl.Change{}}
	if !alikeSeg(mustMerge(t, none, next), mustMerge(t, empty, nextEmpty)) {
		t.Error("MergeSegs tells nil changes and empty ones apart")
	}
	if !slices.Equal(mustForward(t, plainContent(), none), mustForward(t, plainContent(), empty)) {
		t.Error("Forward tells nil changes and empty ones apart")
	}
	if !impl.ChainOK(0, []impl.Seg{none, nextEmpty}) || !impl.ChainOK(0, []impl.Seg{empty, next}) {
		t.Error("ChainOK tells nil changes and empty ones apart")
	}
}

// Promise 1: no call panics, whatever it is given; a panic fails the test by itself.
func TestNoSegmentCallPanics(t *testing.T) {
	numbers := []int{math.MinInt, -1000000, -1, 0, 1, 7, 8, 999999, 1000000, math.MaxInt}
	contents := allContents()
	for i, a := range numbers {
		for _, b := range numbers {
			for _, n := range numbers {
				g := impl.Seg{From: a, To: b, Time: n, Changes: []impl.Change{{Block: n, New: a, Old: b}, {Block: b, New: n, Old: a}}}
				h := impl.Seg{From: b, To: n, Time: a, Changes: []impl.Change{{Block: a, New: b, Old: n}}}
				c := contents[(i+b&3)%len(contents)]
				impl.Forward(c, g)
				impl.Backward(plainContent(), g)
				impl.MergeSegs(g, h)
				impl.SegOf(plainContent(), impl.Frame{Pos: a, Block: b, Value: n, Time: a})
				impl.SegOf(c, impl.Frame{Pos: a, Block: b, Value: n, Time: b})
				impl.ChainOK(a, []impl.Seg{g, h, g})
			}
		}
	}
}
