package tests

import (
	"fmt"
	"math/rand"
	"slices"
	"strings"
	"testing"

	"loop.example/g00608/impl"
)

func TestSuperOK(t *testing.T) {
	for i, s := range rightSupers() {
		if !impl.SuperOK(s) {
			t.Errorf("SuperOK of right super %d, %v, is false", i, s)
		}
	}
	for _, c := range wrongSupers() {
		if impl.SuperOK(c.super) {
			t.Errorf("SuperOK of %q is true", c.name)
		}
	}
}

func TestSuperOKOfEachSector(t *testing.T) {
	for at := -2; at < 70; at++ {
		want := at >= 10 && at <= 63
		if got := impl.SuperOK(impl.Super{Gen: 1, Table: []int{at}}); got != want {
			t.Errorf("SuperOK of a table with sector %d = %t", at, got)
		}
		for other := 10; other < 64; other++ {
			if got := impl.SuperOK(impl.Super{Gen: 1, Table: []int{other, at}}); got != (want && at != other) {
				t.Errorf("SuperOK of a table with sectors %d and %d = %t", other, at, got)
			}
		}
	}
}

func TestSuperOKOfEachByteOfAName(t *testing.T) {
	for b := range 256 {
		want := b >= 'a' && b <= 'z'
		for at := range 6 {
			name := []byte("mmmmmm")
			name[at] = byte(b)
			if got := impl.SuperOK(impl.Super{Gen: 1, Marks: marksOf(1, string(name))}); got != want {
				t.Errorf("SuperOK of a mark %q = %t", name, got)
			}
		}
	}
}

func TestSuperOKOfLengths(t *testing.T) {
	for n := range 30 {
		if got := impl.SuperOK(impl.Super{Gen: 1, Table: sectorsFrom(20, n)}); got != (n <= 20) {
			t.Errorf("SuperOK of a table of %d sectors = %t", n, got)
		}
		if got := impl.SuperOK(impl.Super{Gen: 1, Marks: marksOf(1, strings.Repeat("q", n))}); got != (n >= 1 && n <= 6) {
			t.Errorf("SuperOK of a name of %d letters = %t", n, got)
		}
	}
	for n := range 9 {
		names := strings.Split("abcdefghi", "")[:n]
		if got := impl.SuperOK(impl.Super{Gen: 1, Marks: marksOf(1, names...)}); got != (n <= 4) {
			t.Errorf("SuperOK of %d marks = %t", n, got)
		}
	}
}

func TestSuperOKOfNumbers(t *testing.T) {
	numbers := []int{-1, 0, 1, 2, 500, 999998, 999999, 1000000}
	for _, gen := range numbers {
		for _, base := range numbers {
			for _, pos := range numbers {
				for _, target := range numbers {
					want := gen >= 1 && gen <= 999999 && base >= 0 && base <= 999999 &&
						pos >= base && pos <= 999999 && target >= base && target <= 999999
					s := impl.Super{Gen: gen, Base: base, Pos: pos, Target: target}
					if got := impl.SuperOK(s); got != want {
						t.Errorf("SuperOK of %v = %t", s, got)
					}
				}
			}
		}
	}
}

// The texts are written out here, sums too, so that a fault that writes and reads alike is seen.
func TestSuperTextsByHand(t *testing.T) {
	cases := []struct {
		super impl.Super
		text  string
	}{
		{impl.Super{Gen: 1}, "000001000000000000000000|" + "377"},
		{plainSuper(), "000007000002000003000005000010000063|a=2,noon=15" + "218"},
		{impl.Super{Gen: 12, Base: 3, Pos: 40, Target: 500, Table: []int{63, 10}}, "000012000003000040000500000063000010|" + "273"},
		{impl.Super{Gen: 999999, Marks: marksOf(0, "z")}, "999999000000000000000000|z=0" + "930"},
		{impl.Super{Gen: 1, Marks: marksOf(999999, "a", "b")}, "000001000000000000000000|a=999999,b=999999" + "653"},
	}
	for _, c := range cases {
		if got, code := impl.SuperText(c.super); got != c.text || code != impl.OK {
			t.Errorf("SuperText of %v = %q, %d, want %q", c.super, got, code, c.text)
		}
		if got, code := impl.ReadSuper(c.text); !alikeSuper(got, c.super) || code != impl.OK {
			t.Errorf("ReadSuper of %q = %v, %d, want %v", c.text, got, code, c.super)
		}
	}
}

func mustBeSuperText(t *testing.T, s impl.Super) {
	t.Helper()
	text, code := impl.SuperText(s)
	if code != impl.OK || text != plainSuperText(s) {
		t.Fatalf("SuperText of %v = %q, %d, want %q", s, text, code, plainSuperText(s))
	}
	if len(text) > 300 {
		t.Fatalf("SuperText of %v has %d bytes, which no sector takes", s, len(text))
	}
	if got, code := impl.ReadSuper(text); code != impl.OK || !alikeSuper(got, s) {
		t.Fatalf("ReadSuper of %q = %v, %d, want %v", text, got, code, s)
	}
}

// Promise 5: supers are read back from their texts.
func TestSupersAreReadBack(t *testing.T) {
	for _, s := range rightSupers() {
		mustBeSuperText(t, s)
	}
	r := rand.New(rand.NewSource(5))
	for range 3000 {
		mustBeSuperText(t, anySuper(r))
	}
}

// A sum below 100 or 10 has noughts ahead; all sums occur among these supers.
func TestSumsOfSupersHaveThreeDigits(t *testing.T) {
	seen := map[string]bool{}
	for gen := 1; len(seen) < 997 && gen < 20000; gen++ {
		mustBeSuperText(t, impl.Super{Gen: gen})
		text, _ := impl.SuperText(impl.Super{Gen: gen})
		seen[text[25:]] = true
	}
	if len(seen) != 997 {
		t.Fatalf("only %d sums were tried", len(seen))
	}
}

func TestNoTextOfWrongSupers(t *testing.T) {
	for _, c := range wrongSupers() {
		if text, code := impl.SuperText(c.super); text != "" || code != impl.ErrBad {
			t.Errorf("SuperText of %q = %.80q, %d, want ErrBad alone", c.name, text, code)
		}
	}
}

func wantNoSuper(t *testing.T, text, what string) {
	t.Helper()
	if s, code := impl.ReadSuper(text); code != impl.ErrForm || !zeroSuper(s) {
		t.Errorf("ReadSuper of %s, %.120q = %v, %d, want ErrForm alone", what, text, s, code)
	}
}

// One other digit never leaves the sum alike, since 997 is a prime.
func TestSupersWithAnotherDigit(t *testing.T) {
	for _, s := range rightSupers() {
		text := plainSuperText(s)
		for i := range len(text) {
			for b := byte('0'); b <= '9'; b++ {
				if text[i] >= '0' && text[i] <= '9' && text[i] != b {
					wantNoSuper(t, text[:i]+string(b)+text[i+1:], "another digit")
				}
			}
		}
	}
}

func TestSupersWithAnotherByte(t *testing.T) {
	for _, s := range []impl.Super{{Gen: 1}, plainSuper(), fullSuper()} {
		for _, text := range eachOtherByte(plainSuperText(s), "09az|=,- +\x00\xff\n") {
			wantNoSuper(t, text, "another byte")
		}
	}
}

func TestSupersWithAnotherSum(t *testing.T) {
	for _, s := range rightSupers() {
		body := plainSuperBody(s)
		right := plainSum(body)
		for sum := range 1000 {
			if sum != right {
				wantNoSuper(t, fmt.Sprintf("%s%03d", body, sum), "another sum")
			}
		}
		wantNoSuper(t, fmt.Sprintf("%s%04d", body, right), "a sum of four digits")
		wantNoSuper(t, fmt.Sprintf("%s%d", body, 1000+right), "a sum with a digit ahead")
		wantNoSuper(t, body, "no sum")
	}
}

func TestBeginningsAndEndsOfSupers(t *testing.T) {
	for _, s := range []impl.Super{{Gen: 1}, plainSuper(), fullSuper()} {
		text := plainSuperText(s)
		for n := range len(text) {
			wantNoSuper(t, text[:n], "a beginning")
			// An end may have its own sum by chance, as one of the longest text has; then it is a text of its own.
			if end := text[n:]; n > 0 && (len(end) < 3 || seal(end[:len(end)-3]) != end) {
				wantNoSuper(t, end, "an end")
			}
		}
		for _, more := range []string{"0", " ", "\n", "|", ",", text} {
			wantNoSuper(t, text+more, "a text with more behind")
			wantNoSuper(t, more+text, "a text with more ahead")
		}
	}
}

// With the sum put right, the body alone decides.
func TestBodiesThatAreNoSupers(t *testing.T) {
	head := "000001000000000000000000"
	bodies := []string{
		"", "|", "||", head, head + "000010", "000001000000000000|", "000001|", "00000100000000000000000|", "0000010000000000000000000|",
		head + "0|", head + "00010|", head + "0000010|", head + "10|", head + " 00010|", head + "+00010|", head + "-00010|", head + "00001x|",
		"00001x" + head[6:] + "|", "+00001" + head[6:] + "|", "-00001" + head[6:] + "|", " 00001" + head[6:] + "|",
		"1,0,0,0|", "1|0|0|0|", head + "||", head + "||a=1", "|" + head + "|", head + "|" + head, head + "|000010",
		head + "|a", head + "|=", head + "|=1", head + "|a=", head + "|a==1", head + "|a=1=", head + "|a=1=1", head + "|a1", head + "|a:1", head + "|1=a",
		head + "|,", head + "|,a=1", head + "|a=1,", head + "|a=1,,b=1", head + "|a=1 ,b=1", head + "|a=1, b=1", head + "|a=1;b=1", head + "|a=1b=1", head + "|a=1|b=1", head + "|a=1|",
		head + "|a=01", head + "|a=00", head + "|a=000001", head + "|a=1,b=02", head + "|a=+1", head + "|a=-1", head + "|a=-0", head + "|a= 1", head + "|a=1 ", head + "|a=1x", head + "|a=0x1", head + "|a=1_0", head + "|a=\xd9\xa1",
		head + "|a=1000000", head + "|a=1000000000000000000", head + "|a=9223372036854775808", head + "|a=18446744073709551616", head + "|a=18446744073709551617", head + "|a=" + strings.Repeat("9", 300), head + "|a=1" + strings.Repeat("0", 64), head + "|a=0" + strings.Repeat("0", 64),
		head + "|A=1", head + "|abcdefg=1", head + "|a_=1", head + "|a1=1", head + "| a=1", head + "|a =1",
		head + "|b=1,a=1", head + "|a=1,a=1", head + "|a=1,a=2", head + "|ab=1,a=1", head + "|a=1,b=1,c=1,d=1,e=1", head + "|a=1,b=1,d=1,c=1",
	}
	for _, body := range bodies {
		wantNoSuper(t, seal(body), "a body that is none")
	}
}

// What a text tells must be a super: this goes over all that six digits and marks can tell of wrong ones.
func TestTextsOfWrongSupers(t *testing.T) {
	for _, c := range wrongSupers() {
		if body := plainSuperBody(c.super); len(body) < 65000 {
			wantNoSuper(t, seal(body), c.name)
		}
	}
	for _, numbers := range [][]int{
		{0, 0, 0, 0}, {1, 2, 1, 2}, {1, 2, 2, 1}, {1, 999999, 999998, 999999}, {1, 999999, 999999, 999998},
		{1, 0, 0, 0, 9}, {1, 0, 0, 0, 64}, {1, 0, 0, 0, 0}, {1, 0, 0, 0, 1}, {1, 0, 0, 0, 999999}, {1, 0, 0, 0, 10, 10}, {1, 0, 0, 0, 10, 11, 10},
		append([]int{1, 0, 0, 0}, sectorsFrom(10, 21)...),
	} {
		wantNoSuper(t, seal(sixDigits(numbers...)+"|"), "numbers of no super")
	}
}

// What is none of these can't be read: each text has one super, and each super one text.
func TestTextsThatAreReadAreTheirSupersTexts(t *testing.T) {
	r := rand.New(rand.NewSource(55))
	bytes := "0123456789019,=|abz"
	read := 0
	for range 20000 {
		body := []byte(plainSuperBody(anySuper(r)))
		for range r.Intn(3) {
			body[r.Intn(len(body))] = bytes[r.Intn(len(bytes))]
		}
		text := seal(string(body))
		s, code := impl.ReadSuper(text)
		if code != impl.OK {
			wantNoSuper(t, text, "a text with other bytes")
			continue
		}
		read++
		if !impl.SuperOK(s) || plainSuperText(s) != text {
			t.Fatalf("ReadSuper of %q = %v, whose text it is not", text, s)
		}
	}
	if read < 5000 {
		t.Fatalf("only %d texts were read", read)
	}
}

// ErrLong comes ahead of ErrForm; up to MaxText a text that no sector takes is just none.
func TestSuperTextsBeyondMaxText(t *testing.T) {
	for _, n := range []int{301, 65536, 65537, 70000} {
		want := impl.ErrForm
		if n > 65536 {
			want = impl.ErrLong
		}
		head := "000001000000000000000000"
		texts := []string{
			strings.Repeat("0", n),
			strings.Repeat("|", n),
			seal(head + "|" + strings.Repeat("a", n-28)),
			seal(head + "|a=" + strings.Repeat("9", n-30)),
			seal(head + "|" + strings.Repeat(",", n-28)),
			plainSuperText(plainSuper()) + strings.Repeat(" ", n-51),
		}
		for i, text := range texts {
			if len(text) != n {
				t.Fatalf("text %d has %d bytes, not %d", i, len(text), n)
			}
			if s, code := impl.ReadSuper(text); code != want || !zeroSuper(s) {
				t.Errorf("ReadSuper of text %d of %d bytes: code %d, want %d", i, n, code, want)
			}
		}
	}
}

func TestFreeSectors(t *testing.T) {
	for i, s := range rightSupers() {
		var want []int
		for at := 10; at <= 63; at++ {
			if !slices.Contains(s.Table, at) {
				want = append(want, at)
			}
		}
		if got, code := impl.FreeSectors(s); code != impl.OK || !slices.Equal(got, want) {
			t.Errorf("FreeSectors of super %d = %v, %d, want %v", i, got, code, want)
		}
	}
	for _, c := range wrongSupers() {
		if got, code := impl.FreeSectors(c.super); code != impl.ErrBad || len(got) != 0 {
			t.Errorf("FreeSectors of %q = %v, %d, want ErrBad alone", c.name, got, code)
		}
	}
}

func TestFreeSectorsByHand(t *testing.T) {
	cases := []struct {
		table       []int
		n           int
		first, last int
	}{
		{nil, 54, 10, 63},
		{[]int{10}, 53, 11, 63},
		{[]int{63}, 53, 10, 62},
		{[]int{63, 11, 10}, 51, 12, 62},
		{sectorsFrom(10, 20), 34, 30, 63},
		{sectorsFrom(44, 20), 34, 10, 43},
	}
	for _, c := range cases {
		got, code := impl.FreeSectors(impl.Super{Gen: 1, Table: c.table})
		if code != impl.OK || len(got) != c.n || got[0] != c.first || got[len(got)-1] != c.last || !slices.IsSorted(got) {
			t.Errorf("FreeSectors of %v = %v, %d", c.table, got, code)
		}
	}
}
