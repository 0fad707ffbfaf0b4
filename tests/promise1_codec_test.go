package tests

import (
	"math"
	"math/rand"
	"strings"
	"testing"

	"loop.example/g00608/impl"
)

func allSegs() []impl.Seg {
	out := rightSegs()
	for _, c := range wrongSegs() {
		out = append(out, c.seg)
	}
	return out
}

func allFrames() []impl.Frame {
	out := rightFrames()
	for _, c := range wrongFrames() {
		out = append(out, c.frame)
	}
	return out
}

// codecTexts are texts of each kind that a reader may be handed.
func codecTexts() []string {
	out := []string{"", "0", "007", "\x00\xff", seal("000000"), strings.Repeat("0", 65536), strings.Repeat("0", 65537)}
	for _, g := range rightSegs() {
		text := plainSegText(g)
		out = append(out, text, text[1:], text[:len(text)-1], "-"+text[1:])
	}
	for _, f := range rightFrames() {
		text := plainFrameText(f)
		out = append(out, text, text[1:], text[:len(text)-1], "+"+text[1:])
	}
	return out
}

// Promise 1: no call changes a segment, nor what stands behind its changes.
func TestSegsStayAsTheyWere(t *testing.T) {
	for i, want := range allSegs() {
		g := guardedSeg(want)
		impl.SegOK(g)
		impl.SegText(g)
		if !wholeSeg(g, want) {
			t.Errorf("segment %d is changed", i)
		}
	}
}

// Promise 1: what is read is new memory each time.
func TestSegsThatAreReadShareNoMemory(t *testing.T) {
	for i, want := range rightSegs() {
		text := plainSegText(want)
		first, _ := impl.ReadSeg(text)
		second, _ := impl.ReadSeg(text)
		scribble(first.Changes, guardChange)
		third, _ := impl.ReadSeg(text)
		if !alikeSeg(second, want) || !alikeSeg(third, want) {
			t.Errorf("a write into what was read of text %d is seen elsewhere", i)
		}
	}
}

// Promise 1: alike arguments have alike answers, whatever was called ahead.
func TestAlikeTextsHaveAlikeAnswers(t *testing.T) {
	type answer struct {
		seg              impl.Seg
		frame            impl.Frame
		sum, code, other int
	}
	texts := codecTexts()
	ask := func(text string) answer {
		g, code := impl.ReadSeg(text)
		f, other := impl.ReadFrame(text)
		return answer{g, f, impl.SumOf(text), code, other}
	}
	first := make([]answer, len(texts))
	for i, text := range texts {
		first[i] = ask(text)
	}
	r := rand.New(rand.NewSource(1))
	for _, i := range r.Perm(len(texts)) {
		a, b := first[i], ask(strings.Clone(texts[i]))
		if !alikeSeg(a.seg, b.seg) || a.frame != b.frame || a.sum != b.sum || a.code != b.code || a.other != b.other {
			t.Errorf("text %d has two answers", i)
		}
	}
}

func TestAlikeSegsHaveAlikeTexts(t *testing.T) {
	for i, g := range allSegs() {
		first, code := impl.SegText(g)
		impl.SegText(impl.Seg{From: 8, To: 9, Changes: eachBlock(3, 4)})
		second, other := impl.SegText(guardedSeg(g))
		if first != second || code != other || impl.SegOK(g) != impl.SegOK(guardedSeg(g)) {
			t.Errorf("segment %d has two texts", i)
		}
	}
	for i, f := range allFrames() {
		first, code := impl.FrameText(f)
		impl.FrameText(impl.Frame{Pos: 8, Block: 7, Value: 6, Time: 5})
		if second, other := impl.FrameText(f); first != second || code != other {
			t.Errorf("frame %d has two texts", i)
		}
	}
}

func TestNilAndEmptyChangesAreAlike(t *testing.T) {
	a, code := impl.SegText(impl.Seg{To: 1})
	b, other := impl.SegText(impl.Seg{To: 1, Changes: []impl.Change{}})
	if a != b || code != other || a != seal(sixDigits(0, 1, 0)) {
		t.Errorf("SegText tells nil changes and empty ones apart: %q, %q", a, b)
	}
}

// Promise 1: no call panics, whatever it is given; a panic fails the test by itself.
func TestNoTextCallPanics(t *testing.T) {
	numbers := []int{math.MinInt, -1000000, -1, 0, 1, 7, 8, 999999, 1000000, math.MaxInt}
	for _, text := range codecTexts() {
		impl.SumOf(text)
		impl.ReadSeg(text)
		impl.ReadFrame(text)
	}
	for _, a := range numbers {
		for _, b := range numbers {
			for _, c := range numbers {
				for _, n := range numbers {
					f := impl.Frame{Pos: a, Block: b, Value: c, Time: n}
					impl.FrameOK(f)
					impl.FrameText(f)
					g := impl.Seg{From: a, To: b, Time: c, Changes: []impl.Change{{Block: n, New: a, Old: b}, {Block: c, New: n, Old: a}}}
					impl.SegOK(g)
					impl.SegText(g)
				}
			}
		}
	}
	r := rand.New(rand.NewSource(2))
	for range 2000 {
		text := make([]byte, r.Intn(60))
		r.Read(text)
		impl.ReadSeg(seal(string(text)))
		impl.ReadFrame(seal(string(text)))
	}
}
