package tests

import (
	"bytes"
	"cmp"
	"math"
	"strings"
	"testing"

	"loop.example/g00163/impl"
)

// plainTextKey is a text's key as the document says it, of any length.
func plainTextKey(t string) []byte {
	return []byte(strings.ReplaceAll(t, "\x00", "\x00\xff") + "\x00\x01")
}

func wantNoText(t *testing.T, b []byte, at, want int) {
	t.Helper()
	text, next, code := impl.KeyText(b, at)
	if text != "" || next != 0 || code != want {
		t.Errorf("KeyText(%q, %d) = %q, %d, %d, not code %d", shorten(string(b)), at, shorten(text), next, code, want)
	}
}

func TestTextKeysOfTheDocument(t *testing.T) {
	for _, c := range []struct{ text, want string }{
		{"", "\x00\x01"},
		{"\x00", "\x00\xff\x00\x01"},
		{"\x01", "\x01\x00\x01"},
		{"\xff", "\xff\x00\x01"},
		{"a", "a\x00\x01"},
		{"a\x00\x01", "a\x00\xff\x01\x00\x01"},
		{"\x00\x00", "\x00\xff\x00\xff\x00\x01"},
		{"\x00\xff", "\x00\xff\xff\x00\x01"},
		{strings.Repeat("\x00", impl.MaxKey), strings.Repeat("\x00\xff", impl.MaxKey) + "\x00\x01"},
	} {
		if got := textKey(t, c.text); string(got) != c.want {
			t.Errorf("TextKey(%q) = %q, not %q", c.text, got, c.want)
		}
	}
}

func TestTextKeysRise(t *testing.T) {
	list := risingTexts()
	var keys [][]byte
	for i, text := range list {
		if i > 0 && list[i-1] >= text {
			t.Fatalf("the list does not rise at %q", text)
		}
		keys = append(keys, textKey(t, text))
	}
	wantRising(t, keys)
}

// shortTexts are all texts of at most three of the bytes that matter.
func shortTexts() []string {
	list := []string{""}
	for at := 0; len(list) < 1+6+36+216; at++ {
		for _, c := range []byte{0, 1, 2, 'a', 254, 255} {
			list = append(list, list[at]+string([]byte{c}))
		}
	}
	return list
}

func TestShortTextKeysRise(t *testing.T) {
	list := shortTexts()
	var keys [][]byte
	for _, text := range list {
		keys = append(keys, textKey(t, text))
	}
	for i := range list {
		for k := range list {
			if got := bytes.Compare(keys[i], keys[k]); got != cmp.Compare(list[i], list[k]) {
				t.Fatalf("the keys of %q and %q are ordered %d", list[i], list[k], got)
			}
		}
	}
}

func TestTextKeysAreReadBack(t *testing.T) {
	list := append(risingTexts(), shortTexts()...)
	list = append(list, strings.Repeat("\x00", impl.MaxKey), strings.Repeat("\x00\x01", impl.MaxKey/2))
	for _, text := range list {
		key := textKey(t, text)
		for _, ahead := range []string{"", "\x00", "\x00\x01", "\x00\xff", "zz"} {
			for _, behind := range []string{"", "\x00", "\x01", "\x00\x01", "\xff", "a\x00\x01"} {
				b := []byte(ahead + string(key) + behind)
				got, next, code := impl.KeyText(b, len(ahead))
				if got != text || next != len(ahead)+len(key) || code != impl.OK {
					t.Errorf("KeyText(%q, %d) = %q, %d, %d", b, len(ahead), got, next, code)
				}
			}
		}
	}
}

func TestTextsThatAreTooLong(t *testing.T) {
	for _, c := range []struct{ size, code int }{
		{impl.MaxKey + 1, impl.ErrSize},
		{impl.MaxKey + 2, impl.ErrSize},
		{256, impl.ErrSize},
		{356, impl.ErrSize},
		{impl.MaxText, impl.ErrSize},
		{impl.MaxText + 1, impl.ErrLong},
		{2 * impl.MaxText, impl.ErrLong},
	} {
		for _, one := range []string{"a", "\x00"} {
			key, code := impl.TextKey(strings.Repeat(one, c.size))
			if len(key) != 0 || code != c.code {
				t.Errorf("TextKey of %d bytes = %d bytes, %d, not code %d", c.size, len(key), code, c.code)
			}
		}
	}
	if _, code := impl.TextKey(strings.Repeat("\x00", impl.MaxKey)); code != impl.OK {
		t.Errorf("TextKey of MaxKey noughts: code %d", code)
	}
}

func TestKeysOfTextsThatAreCutOff(t *testing.T) {
	for _, text := range risingTexts() {
		key := textKey(t, text)
		for end := range key {
			wantNoText(t, key[:end], 0, impl.ErrForm)
			wantNoText(t, append([]byte("z\x00\x01"), key[:end]...), 3, impl.ErrForm)
		}
	}
}

func TestBytesBehindTheEndAreNotRead(t *testing.T) {
	whole := textKey(t, "abc")
	for end := range whole {
		wantNoText(t, whole[:end:len(whole)], 0, impl.ErrForm)
	}
}

func TestKeysOfTextsThatGoOnWrongly(t *testing.T) {
	for c := range 256 {
		b := []byte{'a', 0, byte(c), 0, 1}
		text, next, code := impl.KeyText(b, 0)
		switch {
		case c == 1:
			if text != "a" || next != 3 || code != impl.OK {
				t.Errorf("KeyText(%q, 0) = %q, %d, %d", b, text, next, code)
			}
		case c == 255:
			if text != "a\x00" || next != 5 || code != impl.OK {
				t.Errorf("KeyText(%q, 0) = %q, %d, %d", b, text, next, code)
			}
		default:
			wantNoText(t, b, 0, impl.ErrForm)
		}
	}
}

func TestKeysOfTextsLongerThanMaxKey(t *testing.T) {
	for _, one := range []string{"a", "\x00", "\xff"} {
		longest := strings.Repeat(one, impl.MaxKey)
		key := plainTextKey(longest)
		if text, next, code := impl.KeyText(key, 0); text != longest || next != len(key) || code != impl.OK {
			t.Errorf("KeyText of MaxKey bytes %q: %d, %d", one, next, code)
		}
		for _, more := range []string{"a", "\x00", "\xff", longest} {
			wantNoText(t, plainTextKey(longest+more), 0, impl.ErrForm)
			wantNoText(t, append([]byte("zz"), plainTextKey(longest+more)...), 2, impl.ErrForm)
		}
	}
	wantNoText(t, []byte(strings.Repeat("a", impl.MaxText)), 0, impl.ErrForm)
}

func TestPlacesOfTexts(t *testing.T) {
	key := textKey(t, "ab")
	for _, at := range []int{math.MinInt, -1 << 32, -4, -1, len(key) + 1, len(key) + 2, 1 << 32, math.MaxInt} {
		wantNoText(t, key, at, impl.ErrRange)
	}
	wantNoText(t, key, len(key), impl.ErrForm)
	for _, empty := range [][]byte{nil, {}} {
		wantNoText(t, empty, 0, impl.ErrForm)
		wantNoText(t, empty, 1, impl.ErrRange)
		wantNoText(t, empty, -1, impl.ErrRange)
	}
	if text, next, code := impl.KeyText(key, 1); text != "b" || next != 4 || code != impl.OK {
		t.Errorf("KeyText(%q, 1) = %q, %d, %d", key, text, next, code)
	}
	if text, next, code := impl.KeyText(key, 2); text != "" || next != 4 || code != impl.OK {
		t.Errorf("KeyText(%q, 2) = %q, %d, %d", key, text, next, code)
	}
}

func TestBytesOfTextsThatAreTooLong(t *testing.T) {
	b := append(textKey(t, "a"), bytes.Repeat([]byte{'z'}, impl.MaxText)...)
	if text, next, code := impl.KeyText(b[:impl.MaxText], 0); text != "a" || next != 3 || code != impl.OK {
		t.Errorf("KeyText of MaxText bytes = %q, %d, %d", text, next, code)
	}
	for _, at := range []int{math.MinInt, -1, 0, 3, len(b), math.MaxInt} {
		wantNoText(t, b, at, impl.ErrLong)
		wantNoText(t, b[:impl.MaxText+1], at, impl.ErrLong)
	}
}
