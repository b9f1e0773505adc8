package tests

import (
	"math"
	"strings"
	"testing"

	"loop.example/g00163/impl"
)

func TestLimits(t *testing.T) {
	for _, c := range []struct {
		name      string
		got, want int
	}{
		{"MaxText", impl.MaxText, 65536},
		{"MaxList", impl.MaxList, 4096},
		{"MaxName", impl.MaxName, 40},
		{"MaxKey", impl.MaxKey, 100},
		{"MaxParts", impl.MaxParts, 6},
		{"PtInt", impl.PtInt, 1},
		{"PtFloat", impl.PtFloat, 2},
		{"PtText", impl.PtText, 3},
	} {
		if c.got != c.want {
			t.Errorf("%s is %d, not %d", c.name, c.got, c.want)
		}
	}
}

func TestCodes(t *testing.T) {
	for number, c := range []struct {
		code int
		word string
	}{
		{impl.OK, "ok"},
		{impl.ErrBad, "bad"},
		{impl.ErrLong, "long"},
		{impl.ErrForm, "form"},
		{impl.ErrRange, "range"},
		{impl.ErrNone, "none"},
		{impl.ErrMany, "many"},
		{impl.ErrFull, "full"},
		{impl.ErrState, "state"},
		{impl.ErrConflict, "conflict"},
		{impl.ErrClosed, "closed"},
		{impl.ErrSize, "size"},
		{impl.ErrGone, "gone"},
	} {
		if c.code != number {
			t.Errorf("the code of %q is %d, not %d", c.word, c.code, number)
		}
		if got := impl.CodeWord(number); got != c.word {
			t.Errorf("CodeWord(%d) = %q, not %q", number, got, c.word)
		}
		if got := impl.CodeOf(c.word); got != number {
			t.Errorf("CodeOf(%q) = %d, not %d", c.word, got, number)
		}
	}
}

func TestCodeWordOfOtherNumbers(t *testing.T) {
	for _, code := range []int{math.MinInt, -256, -13, -1, 13, 14, 255, 256, 1 << 32, math.MaxInt} {
		if got := impl.CodeWord(code); got != "" {
			t.Errorf("CodeWord(%d) = %q", code, got)
		}
	}
}

func TestCodeOfOtherTexts(t *testing.T) {
	for _, word := range []string{
		"", " ", "OK", "Ok", "o", "okk", "ok ", " ok", "ok\x00", "gon", "bad\n", "conflic", "conflicts", "0", "-1",
		strings.Repeat("ok", impl.MaxText/2),
		strings.Repeat("x", impl.MaxText+1),
		"ok" + strings.Repeat("\x00", impl.MaxText),
		strings.Repeat("ok", impl.MaxText),
	} {
		if got := impl.CodeOf(word); got != -1 {
			t.Errorf("CodeOf(%q) = %d", shorten(word), got)
		}
	}
}

func TestNamesThatAre(t *testing.T) {
	for _, name := range []string{
		"a", "z", "A", "Z", "_", "__", "a0", "_9", "Z9_z", "aB_0189", "m", "M",
		strings.Repeat("x", impl.MaxName),
		"_" + strings.Repeat("9", impl.MaxName-1),
	} {
		if !impl.NameOK(name) {
			t.Errorf("NameOK(%q) = false", name)
		}
	}
}

func TestNamesThatAreNot(t *testing.T) {
	for _, name := range []string{
		"", "0", "9a", "a b", " a", "a ", "a-b", "a.b", "a\x00", "\x00", "a\n", "\xc3\xa4", "a\xff",
		strings.Repeat("x", impl.MaxName+1),
		strings.Repeat("x", impl.MaxText),
		strings.Repeat("x", impl.MaxText+1),
	} {
		if impl.NameOK(name) {
			t.Errorf("NameOK(%q) = true", shorten(name))
		}
	}
}

func TestEachByteOfAName(t *testing.T) {
	for c := range 256 {
		letter := c == '_' || c >= 'a' && c <= 'z' || c >= 'A' && c <= 'Z'
		digit := c >= '0' && c <= '9'
		one := string([]byte{byte(c)})
		if got := impl.NameOK(one); got != letter {
			t.Errorf("NameOK(%q) = %v", one, got)
		}
		for _, name := range []string{"a" + one, "a" + one + "b"} {
			if got := impl.NameOK(name); got != (letter || digit) {
				t.Errorf("NameOK(%q) = %v", name, got)
			}
		}
	}
}
