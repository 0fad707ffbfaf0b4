package tests

import (
	"math"
	"strings"
	"testing"

	"loop.example/g00608/impl"
)

var codes = []struct {
	number int
	code   int
	word   string
}{
	{0, impl.OK, "ok"},
	{1, impl.ErrBad, "bad"},
	{2, impl.ErrLong, "long"},
	{3, impl.ErrForm, "form"},
	{4, impl.ErrRange, "range"},
	{5, impl.ErrNone, "none"},
	{6, impl.ErrMany, "many"},
	{7, impl.ErrFull, "full"},
	{8, impl.ErrSize, "size"},
	{9, impl.ErrThere, "there"},
	{10, impl.ErrDamaged, "damaged"},
	{11, impl.ErrRetained, "retained"},
	{12, impl.ErrMoving, "moving"},
	{13, impl.ErrOpen, "open"},
	{14, impl.ErrShut, "shut"},
	{15, impl.ErrDown, "down"},
	{16, impl.ErrUp, "up"},
	{17, impl.ErrGap, "gap"},
	{18, impl.ErrMarked, "marked"},
	{19, impl.ErrSuper, "super"},
}

func TestConstants(t *testing.T) {
	for _, c := range []struct {
		name      string
		got, want int
	}{
		{"MaxText", impl.MaxText, 65536},
		{"MaxList", impl.MaxList, 4096},
		{"MaxName", impl.MaxName, 40},
		{"Sectors", impl.Sectors, 64},
		{"MaxBytes", impl.MaxBytes, 300},
		{"MaxCache", impl.MaxCache, 80},
	} {
		if c.got != c.want {
			t.Errorf("%s is %d, want %d", c.name, c.got, c.want)
		}
	}
}

func TestCodesAndWords(t *testing.T) {
	if len(codes) != 20 {
		t.Fatalf("%d codes, want 20", len(codes))
	}
	for _, c := range codes {
		if c.code != c.number {
			t.Errorf("the code of %q is %d, want %d", c.word, c.code, c.number)
		}
		if got := impl.CodeWord(c.number); got != c.word {
			t.Errorf("CodeWord(%d) = %q, want %q", c.number, got, c.word)
		}
		if got := impl.CodeOf(c.word); got != c.number {
			t.Errorf("CodeOf(%q) = %d, want %d", c.word, got, c.number)
		}
	}
}

func TestCodeWordOfOtherNumbers(t *testing.T) {
	for _, n := range []int{-1, -2, 20, 21, 256, 1 << 32, math.MaxInt, math.MinInt} {
		if got := impl.CodeWord(n); got != "" {
			t.Errorf("CodeWord(%d) = %q, want the empty text", n, got)
		}
	}
}

func TestCodeOfOtherTexts(t *testing.T) {
	long := strings.Repeat("ok", impl.MaxText)
	for _, w := range []string{"", "OK", "Ok", "o", "okk", " ok", "ok ", "ok\x00", "0", "-1", "super\n", "\xff", long[:impl.MaxText], long[:impl.MaxText+1], long} {
		if got := impl.CodeOf(w); got != -1 {
			t.Errorf("CodeOf of %d bytes %.10q = %d, want -1", len(w), w, got)
		}
	}
}

func TestNameOKByLength(t *testing.T) {
	for n, want := range map[int]bool{0: false, 1: true, 2: true, 39: true, 40: true, 41: false, impl.MaxText: false, impl.MaxText + 1: false} {
		for _, b := range []string{"a", "Z", "_"} {
			if got := impl.NameOK(strings.Repeat(b, n)); got != want {
				t.Errorf("NameOK of %d times %q is %v, want %v", n, b, got, want)
			}
		}
	}
}

func TestNameOKByBytes(t *testing.T) {
	const letters = "abcdefghijklmnopqrstuvwxyzABCDEFGHIJKLMNOPQRSTUVWXYZ_"
	const digits = "0123456789"
	for b := 0; b < 256; b++ {
		one := string([]byte{byte(b)})
		first := strings.Contains(letters, one)
		later := first || strings.Contains(digits, one)
		if got := impl.NameOK(one); got != first {
			t.Errorf("NameOK(%q) = %v, want %v", one, got, first)
		}
		for _, text := range []string{"x" + one, "_9" + one + "9_", strings.Repeat("q", 39) + one} {
			if got := impl.NameOK(text); got != later {
				t.Errorf("NameOK(%q) = %v, want %v", text, got, later)
			}
		}
		if got := impl.NameOK(one + "x"); got != first {
			t.Errorf("NameOK(%q) = %v, want %v", one+"x", got, first)
		}
	}
	if impl.NameOK("é") || impl.NameOK("aé") {
		t.Error("NameOK takes a letter beyond a to z")
	}
}
