package tests

import (
	"math/rand"
	"slices"
	"testing"

	"loop.example/g00608/impl"
)

func TestContentOK(t *testing.T) {
	for i, c := range rightContents() {
		if !impl.ContentOK(c) {
			t.Errorf("ContentOK of right content %d is false", i)
		}
	}
	for _, c := range append(wrongContents(), longContents()...) {
		if impl.ContentOK(c.content) {
			t.Errorf("ContentOK of %s, %.80v is true", c.name, c.content)
		}
	}
}

func TestTurnsByHand(t *testing.T) {
	first, last := impl.Change{Block: 0, New: 999999, Old: 5}, impl.Change{Block: 7, New: 0, Old: 999999}
	middle := impl.Change{Block: 3, New: 30, Old: 31}
	cases := []struct {
		name          string
		changes       []impl.Change
		forward, back []int
	}{
		{"no change", nil, plainContent(), plainContent()},
		{"no change, not nil", []impl.Change{}, plainContent(), plainContent()},
		{"first block", []impl.Change{first}, []int{999999, 11, 12, 13, 14, 15, 16, 17}, []int{5, 11, 12, 13, 14, 15, 16, 17}},
		{"last block", []impl.Change{last}, []int{10, 11, 12, 13, 14, 15, 16, 0}, []int{10, 11, 12, 13, 14, 15, 16, 999999}},
		{"three blocks", []impl.Change{first, middle, last}, []int{999999, 11, 12, 30, 14, 15, 16, 0}, []int{5, 11, 12, 31, 14, 15, 16, 999999}},
		{"each block", eachBlock(1, 2), slices.Repeat([]int{1}, 8), slices.Repeat([]int{2}, 8)},
		{"new and old alike", []impl.Change{{Block: 1, New: 9, Old: 9}}, []int{10, 9, 12, 13, 14, 15, 16, 17}, []int{10, 9, 12, 13, 14, 15, 16, 17}},
	}
	for _, c := range cases {
		g := impl.Seg{From: 3, To: 5, Time: 7, Changes: c.changes}
		if got := mustForward(t, plainContent(), g); !slices.Equal(got, c.forward) {
			t.Errorf("Forward of %s = %v, want %v", c.name, got, c.forward)
		}
		if got := mustBackward(t, plainContent(), g); !slices.Equal(got, c.back) {
			t.Errorf("Backward of %s = %v, want %v", c.name, got, c.back)
		}
	}
}

// What was old need not be in the content: what is new is there all the same, and the other way round.
func TestTurnsOfAnyContent(t *testing.T) {
	r := rand.New(rand.NewSource(4))
	for range 2000 {
		c, g := anyContent(r), anySeg(r)
		if got, want := mustForward(t, c, g), plainTurn(c, g, true); !slices.Equal(got, want) {
			t.Fatalf("Forward of %v over %v = %v, want %v", c, g, got, want)
		}
		if got, want := mustBackward(t, c, g), plainTurn(c, g, false); !slices.Equal(got, want) {
			t.Fatalf("Backward of %v over %v = %v, want %v", c, g, got, want)
		}
	}
}

func TestTurnsOfWhatIsNotRight(t *testing.T) {
	right := impl.Seg{From: 3, To: 5, Changes: []impl.Change{{Block: 2, New: 50, Old: 12}}}
	want := func(name string, out []int, code, wanted int) {
		t.Helper()
		if code != wanted || len(out) != 0 {
			t.Errorf("%s = %v, %d, want code %d alone", name, out, code, wanted)
		}
	}
	both := func(name string, c []int, g impl.Seg, wanted int) {
		t.Helper()
		out, code := impl.Forward(c, g)
		want("Forward of "+name, out, code, wanted)
		out, code = impl.Backward(c, g)
		want("Backward of "+name, out, code, wanted)
	}
	for _, c := range wrongContents() {
		both(c.name, c.content, right, impl.ErrBad)
		both(c.name+" and a wrong segment", c.content, impl.Seg{}, impl.ErrBad)
	}
	for _, c := range longContents() {
		both(c.name, c.content, right, impl.ErrLong)
		both(c.name+" and a wrong segment", c.content, impl.Seg{}, impl.ErrLong)
	}
	for _, g := range wrongSegs() {
		both(g.name, plainContent(), g.seg, impl.ErrBad)
	}
}

func TestSegOfByHand(t *testing.T) {
	cases := []struct {
		frame impl.Frame
		want  impl.Seg
	}{
		{impl.Frame{Pos: 4, Block: 2, Value: 50, Time: 6}, impl.Seg{From: 3, To: 4, Time: 6, Changes: []impl.Change{{Block: 2, New: 50, Old: 12}}}},
		{impl.Frame{Pos: 1}, impl.Seg{From: 0, To: 1, Changes: []impl.Change{{Block: 0, New: 0, Old: 10}}}},
		{impl.Frame{Pos: 999999, Block: 7, Value: 999999, Time: 999999}, impl.Seg{From: 999998, To: 999999, Time: 999999, Changes: []impl.Change{{Block: 7, New: 999999, Old: 17}}}},
		{impl.Frame{Pos: 5, Block: 3, Value: 13, Time: 1}, impl.Seg{From: 4, To: 5, Time: 1, Changes: []impl.Change{{Block: 3, New: 13, Old: 13}}}},
	}
	for _, c := range cases {
		if got := mustSegOf(t, plainContent(), c.frame); !alikeSeg(got, c.want) {
			t.Errorf("SegOf %v = %v, want %v", c.frame, got, c.want)
		}
	}
}

func TestSegOfAnyContent(t *testing.T) {
	r := rand.New(rand.NewSource(5))
	for range 2000 {
		c, f := anyContent(r), anyFrame(r)
		want := impl.Seg{From: f.Pos - 1, To: f.Pos, Time: f.Time, Changes: []impl.Change{{Block: f.Block, New: f.Value, Old: c[f.Block]}}}
		if got := mustSegOf(t, c, f); !alikeSeg(got, want) || !impl.SegOK(got) {
			t.Fatalf("SegOf %v and %v = %v, want %v", c, f, got, want)
		}
	}
}

func TestSegOfWhatIsNotRight(t *testing.T) {
	want := func(name string, c []int, f impl.Frame, wanted int) {
		t.Helper()
		if g, code := impl.SegOf(c, f); code != wanted || !zeroSeg(g) {
			t.Errorf("SegOf %s = %v, %d, want code %d alone", name, g, code, wanted)
		}
	}
	for _, c := range wrongContents() {
		want(c.name, c.content, impl.Frame{Pos: 1}, impl.ErrBad)
		want(c.name+" and a wrong frame", c.content, impl.Frame{}, impl.ErrBad)
	}
	for _, c := range longContents() {
		want(c.name, c.content, impl.Frame{Pos: 1}, impl.ErrLong)
		want(c.name+" and a wrong frame", c.content, impl.Frame{}, impl.ErrLong)
	}
	for _, f := range wrongFrames() {
		want(f.name, plainContent(), f.frame, impl.ErrBad)
	}
}

func TestMergeByHand(t *testing.T) {
	cases := []struct {
		name       string
		a, b, want impl.Seg
	}{
		{
			"without changes",
			impl.Seg{From: 0, To: 1, Time: 3}, impl.Seg{From: 1, To: 2, Time: 4},
			impl.Seg{From: 0, To: 2, Time: 4},
		},
		{
			"the first one changes alone",
			impl.Seg{From: 0, To: 1, Changes: []impl.Change{{Block: 2, New: 5, Old: 4}}}, impl.Seg{From: 1, To: 2},
			impl.Seg{From: 0, To: 2, Changes: []impl.Change{{Block: 2, New: 5, Old: 4}}},
		},
		{
			"the second one changes alone",
			impl.Seg{From: 0, To: 1}, impl.Seg{From: 1, To: 2, Changes: []impl.Change{{Block: 2, New: 5, Old: 4}}},
			impl.Seg{From: 0, To: 2, Changes: []impl.Change{{Block: 2, New: 5, Old: 4}}},
		},
		{
			"both change one block",
			impl.Seg{From: 3, To: 7, Time: 1, Changes: []impl.Change{{Block: 2, New: 5, Old: 4}}},
			impl.Seg{From: 7, To: 9, Time: 2, Changes: []impl.Change{{Block: 2, New: 6, Old: 5}}},
			impl.Seg{From: 3, To: 9, Time: 2, Changes: []impl.Change{{Block: 2, New: 6, Old: 4}}},
		},
		{
			"what was old behind is not what was new ahead",
			impl.Seg{From: 3, To: 7, Changes: []impl.Change{{Block: 2, New: 5, Old: 4}}},
			impl.Seg{From: 7, To: 9, Changes: []impl.Change{{Block: 2, New: 8, Old: 6}}},
			impl.Seg{From: 3, To: 9, Changes: []impl.Change{{Block: 2, New: 8, Old: 4}}},
		},
		{
			"a change that is undone stays a change",
			impl.Seg{From: 3, To: 7, Changes: []impl.Change{{Block: 2, New: 5, Old: 4}}},
			impl.Seg{From: 7, To: 9, Changes: []impl.Change{{Block: 2, New: 4, Old: 5}}},
			impl.Seg{From: 3, To: 9, Changes: []impl.Change{{Block: 2, New: 4, Old: 4}}},
		},
		{
			"blocks of both, mixed",
			impl.Seg{From: 0, To: 999998, Time: 9, Changes: []impl.Change{{Block: 1, New: 11, Old: 10}, {Block: 4, New: 41, Old: 40}, {Block: 7, New: 71, Old: 70}}},
			impl.Seg{From: 999998, To: 999999, Time: 999999, Changes: []impl.Change{{Block: 0, New: 2, Old: 1}, {Block: 4, New: 42, Old: 41}, {Block: 6, New: 62, Old: 61}}},
			impl.Seg{From: 0, To: 999999, Time: 999999, Changes: []impl.Change{{Block: 0, New: 2, Old: 1}, {Block: 1, New: 11, Old: 10}, {Block: 4, New: 42, Old: 40}, {Block: 6, New: 62, Old: 61}, {Block: 7, New: 71, Old: 70}}},
		},
		{
			"each block of both",
			impl.Seg{From: 0, To: 1, Changes: eachBlock(2, 1)}, impl.Seg{From: 1, To: 2, Changes: eachBlock(3, 2)},
			impl.Seg{From: 0, To: 2, Changes: eachBlock(3, 1)},
		},
		{
			"times that fall: the time of the second one",
			impl.Seg{From: 0, To: 1, Time: 9}, impl.Seg{From: 1, To: 2, Time: 4},
			impl.Seg{From: 0, To: 2, Time: 4},
		},
	}
	for _, c := range cases {
		if got := mustMerge(t, c.a, c.b); !alikeSeg(got, c.want) || !impl.SegOK(got) {
			t.Errorf("MergeSegs, %s = %v, want %v", c.name, got, c.want)
		}
	}
}

func TestMergeOfWhatIsNotRight(t *testing.T) {
	want := func(name string, a, b impl.Seg, wanted int) {
		t.Helper()
		if g, code := impl.MergeSegs(a, b); code != wanted || !zeroSeg(g) {
			t.Errorf("MergeSegs, %s = %v, %d, want code %d alone", name, g, code, wanted)
		}
	}
	right := impl.Seg{From: 3, To: 5, Changes: []impl.Change{{Block: 2, New: 50, Old: 12}}}
	for _, c := range wrongSegs() {
		next, ahead := right, right
		next.From, next.To = c.seg.To, c.seg.To+1
		ahead.From, ahead.To = c.seg.From-1, c.seg.From
		want("first "+c.name, c.seg, right, impl.ErrBad)
		want("first with a next one, "+c.name, c.seg, next, impl.ErrBad)
		want("second "+c.name, right, c.seg, impl.ErrBad)
		want("second with one ahead, "+c.name, ahead, c.seg, impl.ErrBad)
		want("both "+c.name, c.seg, c.seg, impl.ErrBad)
	}
	for _, from := range []int{0, 3, 4, 6, 999998} {
		want("a gap", right, impl.Seg{From: from, To: 999999}, impl.ErrGap)
	}
	want("the same one twice", right, right, impl.ErrGap)
	want("the other way round", impl.Seg{From: 5, To: 6}, right, impl.ErrGap)
}

// Promise 4: what is undone is as it was, and redone as it is.
func TestBothWays(t *testing.T) {
	r := rand.New(rand.NewSource(6))
	for range 3000 {
		c := anyContent(r)
		for _, g := range []impl.Seg{mustSegOf(t, c, anyFrame(r)), segOn(r, c, anyNumber(r, 0, 1000), 5)} {
			done := mustForward(t, c, g)
			undone := mustBackward(t, done, g)
			if !slices.Equal(undone, c) {
				t.Fatalf("%v over %v and back is %v", c, g, undone)
			}
			if redone := mustForward(t, undone, g); !slices.Equal(redone, done) {
				t.Fatalf("%v over %v is %v, redone %v", c, g, done, redone)
			}
			if again := mustForward(t, done, g); !slices.Equal(again, done) {
				t.Fatalf("%v over %v once more is %v", done, g, again)
			}
		}
	}
}

func TestWritesBothWays(t *testing.T) {
	for _, c := range rightContents() {
		for block := range 8 {
			for _, value := range []int{0, 1, 999998, 999999} {
				g := mustSegOf(t, c, impl.Frame{Pos: 1, Block: block, Value: value})
				done := mustForward(t, c, g)
				want := slices.Clone(c)
				want[block] = value
				if back := mustBackward(t, done, g); !slices.Equal(done, want) || !slices.Equal(back, c) {
					t.Errorf("%d into block %d of %v is %v, and back %v", value, block, c, done, back)
				}
			}
		}
	}
}

// Promise 4: segments that are put together do what both do, forwards of any content, and back.
func TestMergedSegsDoWhatBothDo(t *testing.T) {
	r := rand.New(rand.NewSource(7))
	for range 3000 {
		c, a, b := anyContent(r), anySeg(r), anySeg(r)
		a.To = anyNumber(r, 1, 999998)
		a.From = r.Intn(a.To)
		b.From, b.To = a.To, anyNumber(r, a.To+1, 999999)
		g := mustMerge(t, a, b)
		if !impl.SegOK(g) || g.From != a.From || g.To != b.To || g.Time != b.Time {
			t.Fatalf("MergeSegs of %v and %v = %v", a, b, g)
		}
		if got, want := mustForward(t, c, g), mustForward(t, mustForward(t, c, a), b); !slices.Equal(got, want) {
			t.Fatalf("forwards %v and %v make %v, merged %v", a, b, want, got)
		}
		if got, want := mustBackward(t, c, g), mustBackward(t, mustBackward(t, c, b), a); !slices.Equal(got, want) {
			t.Fatalf("back %v and %v make %v, merged %v", b, a, want, got)
		}
	}
}

// A chain may be merged in any grouping; what it was made of comes back.
func TestMergedChainsBothWays(t *testing.T) {
	r := rand.New(rand.NewSource(8))
	for range 500 {
		c := anyContent(r)
		at, all := c, []impl.Seg{}
		pos := anyNumber(r, 0, 1000)
		base := pos
		for i := range 2 + r.Intn(6) {
			g := segOn(r, at, pos, i/2)
			all = append(all, g)
			at, pos = mustForward(t, at, g), g.To
		}
		left, right := all[0], all[len(all)-1]
		for _, g := range all[1:] {
			left = mustMerge(t, left, g)
		}
		for i := len(all) - 2; i >= 0; i-- {
			right = mustMerge(t, all[i], right)
		}
		if !alikeSeg(left, right) || !impl.ChainOK(base, all) || !impl.ChainOK(base, []impl.Seg{left}) {
			t.Fatalf("%v merged from the left is %v, from the right %v", all, left, right)
		}
		if !slices.Equal(mustForward(t, c, left), at) || !slices.Equal(mustBackward(t, at, left), c) {
			t.Fatalf("%v merged is %v, which does not lead from %v to %v and back", all, left, c, at)
		}
	}
}
