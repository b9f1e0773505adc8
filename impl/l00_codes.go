package impl

const (
	MaxText = 65536
	MaxList = 4096
	MaxName = 40

	OK          = 0
	ErrBad      = 1
	ErrLong     = 2
	ErrForm     = 3
	ErrRange    = 4
	ErrNone     = 5
	ErrMany     = 6
	ErrFull     = 7
	ErrState    = 8
	ErrConflict = 9
	ErrClosed   = 10
	ErrSize     = 11
	ErrGone     = 12
)

var codeWords = [13]string{
	"ok", "bad", "long", "form", "range", "none", "many",
	"full", "state", "conflict", "closed", "size", "gone",
}

// NameOK tells whether t is a name: 1 to MaxName bytes, letters, _ and digits, no digit first.
func NameOK(t string) bool {
	if len(t) == 0 || len(t) > MaxName || isDigit(t[0]) {
		return false
	}
	for i := range len(t) {
		if !isLetter(t[i]) && !isDigit(t[i]) {
			return false
		}
	}
	return true
}

func isLetter(c byte) bool {
	return c == '_' || 'a' <= c && c <= 'z' || 'A' <= c && c <= 'Z'
}

func isDigit(c byte) bool {
	return '0' <= c && c <= '9'
}

// CodeWord gives the word of a code, the empty text for any other number.
func CodeWord(code int) string {
	if code < 0 || code >= len(codeWords) {
		return ""
	}
	return codeWords[code]
}

// CodeOf gives the code of a word, -1 for any other text.
func CodeOf(word string) int {
	for code := range len(codeWords) {
		if codeWords[code] == word {
			return code
		}
	}
	return -1
}
