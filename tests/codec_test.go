package tests

import (
	"fmt"
	"math/rand"
	"strings"
	"testing"

	"loop.example/g00608/impl"
)

func TestSumOf(t *testing.T) {
	cases := []struct {
		text string
		want int
	}{
		{"", 7},
		{"0", 265},
		{"01", 288},
		{"a", 314},
		{"abc", 806},
		{"\x00", 217},
		{"\xff", 472}, // a byte, not a letter of two
		{strings.Repeat("9", 65536), 972},
		{strings.Repeat("\xff", 65536), 601},
		{strings.Repeat("\x00", 65536), 822},
		{strings.Repeat("9", 65537), 0},
		{strings.Repeat("\x00", 65537), 0},
		{strings.Repeat("9", 200000), 0},
	}
	for _, c := range cases {
		if got := impl.SumOf(c.text); got != c.want {
			t.Errorf("SumOf of %d bytes %.10q = %d, want %d", len(c.text), c.text, got, c.want)
		}
	}
}

func TestSumOfAllLengths(t *testing.T) {
	r := rand.New(rand.NewSource(31))
	all := make([]byte, 700)
	r.Read(all)
	for n := range all {
		if got, want := impl.SumOf(string(all[:n])), plainSum(string(all[:n])); got != want {
			t.Fatalf("SumOf of %d bytes = %d, want %d", n, got, want)
		}
	}
	for b := range 256 {
		text := string([]byte{byte(b), '0', byte(b)})
		if got, want := impl.SumOf(text), plainSum(text); got != want {
			t.Errorf("SumOf of %q = %d, want %d", text, got, want)
		}
	}
}

func TestSegOK(t *testing.T) {
	for i, g := range rightSegs() {
		if !impl.SegOK(g) {
			t.Errorf("SegOK of right segment %d is false", i)
		}
	}
	for _, c := range wrongSegs() {
		if impl.SegOK(c.seg) {
			t.Errorf("SegOK of %q is true", c.name)
		}
	}
	// one number beyond its bounds, all else being right
	for _, n := range []int{-1000000, -1, 1000000} {
		for i := range 8 {
			changes := eachBlock(1, 2)
			changes[i].New = n
			if impl.SegOK(impl.Seg{To: 1, Changes: changes}) {
				t.Errorf("SegOK with %d as new value of block %d is true", n, i)
			}
			changes = eachBlock(1, 2)
			changes[i].Old = n
			if impl.SegOK(impl.Seg{To: 1, Changes: changes}) {
				t.Errorf("SegOK with %d as old value of block %d is true", n, i)
			}
		}
	}
	for i := range 8 {
		for j := range 8 {
			g := impl.Seg{To: 1, Changes: []impl.Change{{Block: i}, {Block: j}}}
			if impl.SegOK(g) != (i < j) {
				t.Errorf("SegOK of blocks %d, %d = %t", i, j, impl.SegOK(g))
			}
		}
	}
}

func TestFrameOK(t *testing.T) {
	for i, f := range rightFrames() {
		if !impl.FrameOK(f) {
			t.Errorf("FrameOK of right frame %d is false", i)
		}
	}
	for _, c := range wrongFrames() {
		if impl.FrameOK(c.frame) {
			t.Errorf("FrameOK of %q is true", c.name)
		}
	}
}

// The texts are written out here, sums too, so that a fault that writes and reads alike is seen.
func TestTextsByHand(t *testing.T) {
	segs := []struct {
		seg  impl.Seg
		text string
	}{
		{impl.Seg{To: 1}, "000000000001000000" + "550"},
		{impl.Seg{From: 999998, To: 999999, Time: 999999}, "999998999999999999" + "792"},
		{
			impl.Seg{From: 3, To: 5, Time: 77, Changes: []impl.Change{{Block: 1, New: 9, Old: 8}, {Block: 7, New: 999999, Old: 0}}},
			"000003000005000077" + "000001000009000008" + "000007999999000000" + "518",
		},
	}
	for _, c := range segs {
		if got, code := impl.SegText(c.seg); got != c.text || code != impl.OK {
			t.Errorf("SegText of %v = %q, %d, want %q", c.seg, got, code, c.text)
		}
		if got, code := impl.ReadSeg(c.text); !alikeSeg(got, c.seg) || code != impl.OK {
			t.Errorf("ReadSeg of %q = %v, %d", c.text, got, code)
		}
	}
	frames := []struct {
		frame impl.Frame
		text  string
	}{
		{impl.Frame{Pos: 1}, "000001000000000000000000" + "973"},
		{impl.Frame{Pos: 4, Block: 2, Value: 50, Time: 6}, "000004000002000050000006" + "004"},
		{impl.Frame{Pos: 999999, Block: 7, Value: 999999, Time: 999999}, "999999000007999999999999" + "593"},
	}
	for _, c := range frames {
		if got, code := impl.FrameText(c.frame); got != c.text || code != impl.OK {
			t.Errorf("FrameText of %v = %q, %d, want %q", c.frame, got, code, c.text)
		}
		if got, code := impl.ReadFrame(c.text); got != c.frame || code != impl.OK {
			t.Errorf("ReadFrame of %q = %v, %d", c.text, got, code)
		}
	}
}

func mustBeSegText(t *testing.T, g impl.Seg) {
	t.Helper()
	text, code := impl.SegText(g)
	if code != impl.OK || text != plainSegText(g) {
		t.Fatalf("SegText of %v = %q, %d, want %q", g, text, code, plainSegText(g))
	}
	if got, code := impl.ReadSeg(text); code != impl.OK || !alikeSeg(got, g) {
		t.Fatalf("ReadSeg of %q = %v, %d, want %v", text, got, code, g)
	}
}

func mustBeFrameText(t *testing.T, f impl.Frame) {
	t.Helper()
	text, code := impl.FrameText(f)
	if code != impl.OK || text != plainFrameText(f) {
		t.Fatalf("FrameText of %v = %q, %d, want %q", f, text, code, plainFrameText(f))
	}
	if got, code := impl.ReadFrame(text); code != impl.OK || got != f {
		t.Fatalf("ReadFrame of %q = %v, %d, want %v", text, got, code, f)
	}
}

// Promise 3: segments and frames are read back from their texts.
func TestTextsAreReadBack(t *testing.T) {
	for _, g := range rightSegs() {
		mustBeSegText(t, g)
	}
	for _, f := range rightFrames() {
		mustBeFrameText(t, f)
	}
	r := rand.New(rand.NewSource(3))
	for range 3000 {
		mustBeSegText(t, anySeg(r))
		mustBeFrameText(t, anyFrame(r))
	}
}

// A sum below 100 or 10 has noughts ahead; all sums occur among these frames.
func TestSumsHaveThreeDigits(t *testing.T) {
	seen := map[string]bool{}
	for value := 0; len(seen) < 997 && value < 20000; value++ {
		f := impl.Frame{Pos: 1, Value: value}
		mustBeFrameText(t, f)
		text, _ := impl.FrameText(f)
		seen[text[24:]] = true
	}
	for sum := range 997 {
		if !seen[fmt.Sprintf("%03d", sum)] {
			t.Fatalf("no frame with sum %03d was tried", sum)
		}
	}
}

func wantNoSeg(t *testing.T, text, what string) {
	t.Helper()
	if g, code := impl.ReadSeg(text); code != impl.ErrForm || !zeroSeg(g) {
		t.Errorf("ReadSeg of %s, %.80q = %v, %d, want ErrForm alone", what, text, g, code)
	}
}

func wantNoFrame(t *testing.T, text, what string) {
	t.Helper()
	if f, code := impl.ReadFrame(text); code != impl.ErrForm || f != (impl.Frame{}) {
		t.Errorf("ReadFrame of %s, %.80q = %v, %d, want ErrForm alone", what, text, f, code)
	}
}

// eachOtherByte answers the texts that differ from text in one byte, which is one of bytes.
func eachOtherByte(text, bytes string) []string {
	var out []string
	for i := range len(text) {
		for j := range len(bytes) {
			if bytes[j] != text[i] {
				out = append(out, text[:i]+bytes[j:j+1]+text[i+1:])
			}
		}
	}
	return out
}

// Promise 3: with another digit they are none. The sum of one other digit is never alike, since 997 is a prime.
func TestAnotherDigit(t *testing.T) {
	for _, g := range rightSegs() {
		for _, text := range eachOtherByte(plainSegText(g), "0123456789") {
			wantNoSeg(t, text, "another digit")
		}
	}
	for _, f := range rightFrames() {
		for _, text := range eachOtherByte(plainFrameText(f), "0123456789") {
			wantNoFrame(t, text, "another digit")
		}
	}
}

// Promise 3: unless the sum is alike: then the text is that of another one.
func TestOtherDigitsWithTheSameSum(t *testing.T) {
	segSum, frameSum := plainSum(sixDigits(3, 5, 77, 1, 9, 8)), plainSum(sixDigits(4, 2, 50, 6))
	segs, frames := 0, 0
	for n := 51; n < 10000; n++ {
		if plainSum(sixDigits(3, 5, 77, 1, n, 8)) == segSum {
			segs++
			mustBeSegText(t, impl.Seg{From: 3, To: 5, Time: 77, Changes: []impl.Change{{Block: 1, New: n, Old: 8}}})
		}
		if plainSum(sixDigits(4, 2, n, 6)) == frameSum {
			frames++
			mustBeFrameText(t, impl.Frame{Pos: 4, Block: 2, Value: n, Time: 6})
		}
		if segs >= 3 && frames >= 3 {
			return
		}
	}
	t.Fatal("no other texts with the same sums were found")
}

// A sum is below 997; what would be alike modulo 997 is another text.
func TestSumsBeyondTheModulus(t *testing.T) {
	found := 0
	for value := range 100000 {
		body := sixDigits(1, 0, value, 0)
		if sum := plainSum(body); sum < 3 {
			found++
			wantNoFrame(t, body+fmt.Sprint(997+sum), "a sum beyond 996")
		}
		seg := sixDigits(0, 1, value)
		if sum := plainSum(seg); sum < 3 {
			found++
			wantNoSeg(t, seg+fmt.Sprint(997+sum), "a sum beyond 996")
		}
		if found >= 12 {
			return
		}
	}
	t.Fatal("no sums below 3 were found")
}

func TestTextsThatAreTooShortOrTooLong(t *testing.T) {
	for _, g := range rightSegs() {
		text := plainSegText(g)
		body := text[:len(text)-3]
		for n := range len(text) {
			wantNoSeg(t, text[:n], "a beginning")
			wantNoSeg(t, text[n+1:], "an end")
		}
		for n := range len(body) {
			if n < 18 || n%18 != 0 {
				wantNoSeg(t, seal(body[:n]), "a beginning with its sum")
			}
		}
		for _, more := range []string{"0", "\n", " ", text} {
			wantNoSeg(t, text+more, "a text with more behind")
			wantNoSeg(t, more+text, "a text with more ahead")
		}
	}
	for _, f := range rightFrames() {
		text := plainFrameText(f)
		body := text[:24]
		for n := range len(text) {
			wantNoFrame(t, text[:n], "a beginning")
			wantNoFrame(t, text[n+1:], "an end")
		}
		for n := range len(body) {
			wantNoFrame(t, seal(body[:n]), "a beginning with its sum")
		}
		for n := 1; n <= 24; n++ {
			wantNoFrame(t, seal(body+strings.Repeat("1", n)), "a text with more digits and its sum")
		}
		for _, more := range []string{"0", "\n", " ", text} {
			wantNoFrame(t, text+more, "a text with more behind")
			wantNoFrame(t, more+text, "a text with more ahead")
		}
	}
}

func TestShortTexts(t *testing.T) {
	for _, text := range []string{"", "0", "00", "000", "007", "265", "\x00", seal(""), seal("0"), seal("000000"), seal("|")} {
		wantNoSeg(t, text, "a short text")
		wantNoFrame(t, text, "a short text")
	}
}

// A number of five or seven digits is none, though all lengths together be right.
func TestNumbersOfOtherLengths(t *testing.T) {
	wantNoSeg(t, seal("00003"+"000005"+"000077"), "a number of five digits")
	wantNoSeg(t, seal("3"+"5"+"77"), "numbers without noughts")
	wantNoSeg(t, seal("0000003"+"0000005"+"0000077"), "numbers of seven digits")
	wantNoFrame(t, seal("4"+"2"+"50"+"6"), "numbers without noughts")
	wantNoFrame(t, seal("0000004"+"0000002"+"0000050"+"0000006"), "numbers of seven digits")
}

// With the sum put right, a byte that is no digit makes no number, wherever it stands.
func TestBytesThatAreNoDigits(t *testing.T) {
	var others []byte
	for b := range 256 {
		if b < '0' || b > '9' {
			others = append(others, byte(b))
		}
	}
	g := plainSegText(impl.Seg{From: 3, To: 5, Time: 77, Changes: []impl.Change{{Block: 1, New: 9, Old: 8}}})
	for _, body := range eachOtherByte(g[:len(g)-3], string(others)) {
		wantNoSeg(t, seal(body), "a byte that is no digit")
	}
	f := plainFrameText(impl.Frame{Pos: 4, Block: 2, Value: 50, Time: 6})
	for _, body := range eachOtherByte(f[:24], string(others)) {
		wantNoFrame(t, seal(body), "a byte that is no digit")
	}
	for _, text := range eachOtherByte(g, string(others)) {
		wantNoSeg(t, text, "a byte that is no digit, in the sum or ahead")
	}
}

// A text whose numbers and sum are right is none, if what it tells is not right.
func TestTextsOfWhatIsNotRight(t *testing.T) {
	segs := [][]int{
		{3, 3, 77}, {5, 3, 77}, {0, 0, 0}, {999999, 999999, 0},
		{3, 5, 77, 8, 9, 8}, {3, 5, 77, 999999, 9, 8},
		{3, 5, 77, 1, 9, 8, 1, 9, 8}, {3, 5, 77, 2, 9, 8, 1, 9, 8},
		{3, 5, 77, 0, 1, 1, 2, 1, 1, 1, 1, 1},
		{3, 5, 77, 0, 1, 1, 7, 1, 1, 8, 1, 1},
		{3, 5}, {3, 5, 77, 1}, {3, 5, 77, 1, 9}, {3, 5, 77, 1, 9, 8, 2}, {3, 5, 77, 1, 9, 8, 2, 9},
	}
	for _, numbers := range segs {
		wantNoSeg(t, seal(sixDigits(numbers...)), "what is no segment")
	}
	frames := [][]int{
		{0, 2, 50, 6}, {4, 8, 50, 6}, {4, 999999, 50, 6},
		{4}, {4, 2}, {4, 2, 50}, {4, 2, 50, 6, 7}, {4, 2, 50, 6, 4, 2, 50, 6},
	}
	for _, numbers := range frames {
		wantNoFrame(t, seal(sixDigits(numbers...)), "what is no frame")
	}
}

func TestNoTextOfWhatIsNotRight(t *testing.T) {
	for _, c := range wrongSegs() {
		if text, code := impl.SegText(c.seg); text != "" || code != impl.ErrBad {
			t.Errorf("SegText of %q = %q, %d, want ErrBad alone", c.name, text, code)
		}
	}
	for _, c := range wrongFrames() {
		if text, code := impl.FrameText(c.frame); text != "" || code != impl.ErrBad {
			t.Errorf("FrameText of %q = %q, %d, want ErrBad alone", c.name, text, code)
		}
	}
}

// ErrLong comes ahead of ErrForm, and of what the text tells.
func TestTextsBeyondMaxText(t *testing.T) {
	for _, n := range []int{65536, 65537, 65538, 100000} {
		want := impl.ErrForm
		if n > 65536 {
			want = impl.ErrLong
		}
		texts := []string{
			strings.Repeat("0", n),
			strings.Repeat("x", n),
			seal(strings.Repeat("0", n-3)),
			seal(sixDigits(3, 5, 77) + strings.Repeat("1", n-21)),
		}
		for i, text := range texts {
			if g, code := impl.ReadSeg(text); code != want || !zeroSeg(g) {
				t.Errorf("ReadSeg of text %d of %d bytes = code %d, want %d", i, n, code, want)
			}
			if f, code := impl.ReadFrame(text); code != want || f != (impl.Frame{}) {
				t.Errorf("ReadFrame of text %d of %d bytes = code %d, want %d", i, n, code, want)
			}
		}
	}
}
