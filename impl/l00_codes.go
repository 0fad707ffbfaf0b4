package impl

const (
	MaxText = 65536
	MaxList = 4096
	MaxName = 40
)

const (
	OK = iota
	ErrBad
	ErrLong
	ErrForm
	ErrRange
	ErrNone
	ErrMany
	ErrFull
	ErrSize
	ErrThere
	ErrDamaged
	ErrRetained
	ErrMoving
	ErrOpen
	ErrShut
	ErrDown
	ErrUp
	ErrGap
	ErrMarked
	ErrSuper
)

// The words stand in the order of the codes, so that a code is the place of its word.
var codeWords = [...]string{
	"ok", "bad", "long", "form", "range",
	"none", "many", "full", "size", "there",
	"damaged", "retained", "moving", "open", "shut",
	"down", "up", "gap", "marked", "super",
}

// NameOK tells whether t is a name.
func NameOK(t string) bool {
	if len(t) == 0 || len(t) > MaxName {
		return false
	}
	for i := 0; i < len(t); i++ {
		if !startsName(t[i]) && (i == 0 || !isDigit(t[i])) {
			return false
		}
	}
	return true
}

func startsName(b byte) bool {
	return b >= 'a' && b <= 'z' || b >= 'A' && b <= 'Z' || b == '_'
}

func isDigit(b byte) bool {
	return b >= '0' && b <= '9'
}

// CodeWord answers the word of a code, and the empty text for any other number.
func CodeWord(code int) string {
	if code < 0 || code >= len(codeWords) {
		return ""
	}
	return codeWords[code]
}

// CodeOf answers the code of a word, and -1 for any other text.
func CodeOf(word string) int {
	for code := 0; code < len(codeWords); code++ {
		if codeWords[code] == word {
			return code
		}
	}
	return -1
}

// copyList answers nil for an empty list, so that nil and an empty list lead to the same answer.
func copyList[T any](list []T) []T {
	if len(list) == 0 {
		return nil
	}
	out := make([]T, len(list))
	copy(out, list)
	return out
}
