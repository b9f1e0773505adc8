package tests

import (
	"bytes"
	"slices"
	"strconv"
	"strings"
	"testing"

	"loop.example/g00163/impl"
)

func TestBytesOfPages(t *testing.T) {
	for _, c := range []struct {
		name string
		p    impl.Page
		want string
	}{
		{"nothing", whole(nil), "\x00\x00\x00\x00\x00\x00"},
		{"bounds", impl.Page{Low: "lo", High: "m", Right: 0}, "\x02lo\x01m\x00\x01\x00\x00"},
		{"Right of two bytes", impl.Page{High: "m", Right: 255}, "\x00\x01m\x01\x00\x00\x00"},
		{"Right MaxId", impl.Page{High: "m", Right: impl.MaxId}, "\x00\x01m\x03\xe9\x00\x00"},
		{"entries", whole(entriesOf("k=vv", "l=")), "\x00\x00\x00\x00\x02\x01k\x02vv\x01l\x00\x00"},
		{"changes", whole(nil, put("p", "xyz"), drop("d"), split("s", 258), split("r", impl.MaxId), put("q", "")), "\x00\x00\x00\x00\x00\x05\x01\x01p\x03xyz\x00\x00\x02\x01d\x00\x00\x00\x03\x01s\x00\x01\x02\x03\x01r\x00\x03\xe8\x01\x01q\x00\x00\x00"},
		{"all", middle(), "\x01b\x01m\x00\x08\x03\x01b\x011\x01d\x012\x01h\x013\x04\x01\x01c\x014\x00\x00\x02\x01d\x00\x00\x00\x03\x01g\x00\x00\x09\x01\x01f\x015\x00\x00"},
		{"long texts", whole([]impl.Entry{{Key: longKey, Value: longValue}}), "\x00\x00\x00\x00\x01\x28" + longKey + "\x64" + longValue + "\x00"},
	} {
		b := pageBytes(t, c.p)
		wantBytes(t, c.name, b, []byte(c.want))
		if got := rawPage(c.p); !bytes.Equal(got, b) {
			t.Errorf("%s: the tests themselves have other bytes: %q", c.name, got)
		}
	}
}

func TestPagesAreReadBack(t *testing.T) {
	for _, c := range rightPages() {
		b := pageBytes(t, c.Page)
		wantBytes(t, c.name, b, rawPage(c.Page))
		p, code := impl.ReadPage(b)
		if code != impl.OK {
			t.Errorf("%s: ReadPage has code %d", c.name, code)
		}
		wantPage(t, c.name, p, c.Page)
	}
}

func wantNoPage(t *testing.T, what string, b []byte, want int) {
	t.Helper()
	if p, code := impl.ReadPage(b); code != want || !samePage(p, impl.Page{}) {
		t.Errorf("%s: ReadPage of %q has code %d, want %d", what, shorten(string(b)), code, want)
	}
}

func TestBytesThatAreCut(t *testing.T) {
	for _, c := range rightPages() {
		b := pageBytes(t, c.Page)
		for end := range b {
			wantNoPage(t, c.name+", cut at "+strconv.Itoa(end), b[:end:end], impl.ErrForm)
			wantNoPage(t, c.name+", cut ahead of others at "+strconv.Itoa(end), b[:end], impl.ErrForm)
		}
		for _, more := range []string{"\x00", "\x01", "\xff", strings.Repeat("\x00", 7), string(b)} {
			wantNoPage(t, c.name+", with more behind", append(bytes.Clone(b), more...), impl.ErrForm)
		}
		wantNoPage(t, c.name+", MaxText bytes", append(b, make([]byte, impl.MaxText-len(b))...), impl.ErrForm)
		wantNoPage(t, c.name+", one byte more", append(b, make([]byte, impl.MaxText+1-len(b))...), impl.ErrLong)
	}
	wantNoPage(t, "nil", nil, impl.ErrForm)
	wantNoPage(t, "no bytes", []byte{}, impl.ErrForm)
	for size := range 20 {
		if size != 6 {
			wantNoPage(t, strconv.Itoa(size)+" noughts", make([]byte, size), impl.ErrForm)
		}
	}
	for _, size := range []int{impl.MaxText - 1, impl.MaxText} {
		wantNoPage(t, "many noughts", make([]byte, size), impl.ErrForm)
		wantNoPage(t, "many bytes 255", bytes.Repeat([]byte{255}, size), impl.ErrForm)
		wantNoPage(t, "many bytes 1", bytes.Repeat([]byte{1}, size), impl.ErrForm)
	}
	for _, size := range []int{impl.MaxText + 1, 2 * impl.MaxText} {
		wantNoPage(t, "too many noughts", make([]byte, size), impl.ErrLong)
	}
}

// fits tells whether the bytes of a page have room for all that it is.
func fits(p impl.Page) bool {
	texts := []string{p.Low, p.High}
	numbers := []int{p.Right + 1, 256 * len(p.Base), 256 * len(p.Chain)}
	for _, e := range p.Base {
		texts = append(texts, e.Key, e.Value)
	}
	for _, d := range p.Chain {
		texts = append(texts, d.Key, d.Value)
		numbers = append(numbers, 256*d.Kind, d.To)
	}
	long := slices.ContainsFunc(texts, func(t string) bool { return len(t) > 255 })
	great := slices.ContainsFunc(numbers, func(n int) bool { return n < 0 || n > 65535 })
	return !long && !great
}

func TestBytesOfPagesThatAreNotRight(t *testing.T) {
	asked := 0
	for _, c := range wrongPages() {
		if fits(c.Page) {
			asked++
			wantNoPage(t, c.name, rawPage(c.Page), impl.ErrForm)
		}
	}
	if asked < 120 {
		t.Errorf("only %d of the wrong pages have bytes", asked)
	}
}

// Bytes of a page, each turned into each other one: read if and only if a
// right page has them, and then as that page.
func TestBytesThatAreTurned(t *testing.T) {
	read := 0
	for _, c := range rightPages() {
		b := rawPage(c.Page)
		if len(b) > 120 {
			continue
		}
		for at := range b {
			for other := range 256 {
				turned := bytes.Clone(b)
				turned[at] = byte(other)
				want, ok := plainReadPage(turned)
				if !ok || !plainPageOK(want) {
					wantNoPage(t, c.name+", turned at "+strconv.Itoa(at), turned, impl.ErrForm)
					continue
				}
				read++
				got, code := impl.ReadPage(turned)
				if code != impl.OK {
					t.Errorf("%s, turned at %d: code %d", c.name, at, code)
				}
				wantPage(t, c.name+", turned at "+strconv.Itoa(at), got, want)
				wantBytes(t, c.name, pageBytes(t, got), turned)
			}
		}
	}
	if read < 999 {
		t.Errorf("only %d of the turned bytes were a page's", read)
	}
}

// One length or one number in the bytes that no right page has.
func TestLengthsAndNumbersThatNoPageHas(t *testing.T) {
	for _, c := range []struct{ name, b string }{
		{"a Low of 41 bytes", "\x29" + tooLongKey + "\x00\x00\x00\x00\x00"},
		{"a High of 41 bytes", "\x00\x29" + tooLongKey + "\x00\x01\x00\x00"},
		{"a Low beyond the end", "\xff\x00\x00\x00\x00\x00"},
		{"a High beyond the end", "\x00\x05\x00\x00\x00\x00"},
		{"Right 1001", "\x00\x01m\x03\xea\x00\x00"},
		{"Right 65534", "\x00\x01m\xff\xff\x00\x00"},
		{"Right -1 with a High", "\x00\x01m\x00\x00\x00\x00"},
		{"Right 0 without a High", "\x00\x00\x00\x01\x00\x00"},
		{"an entry that is not there", "\x00\x00\x00\x00\x01\x00"},
		{"an entry too few", "\x00\x00\x00\x00\x01\x01k\x01v\x01l\x01w\x00"},
		{"an entry too many", "\x00\x00\x00\x00\x03\x01k\x01v\x01l\x01w\x00"},
		{"a key of none", "\x00\x00\x00\x00\x01\x00\x01v\x00"},
		{"a key of 41 bytes", "\x00\x00\x00\x00\x01\x29" + tooLongKey + "\x01v\x00"},
		{"a value of 101 bytes", "\x00\x00\x00\x00\x01\x01k\x65" + tooLong + "\x00"},
		{"a change that is not there", "\x00\x00\x00\x00\x00\x01"},
		{"a change of Kind 0", "\x00\x00\x00\x00\x00\x01\x00\x01k\x00\x00\x00"},
		{"a change of Kind 4", "\x00\x00\x00\x00\x00\x01\x04\x01k\x00\x00\x00"},
		{"a change of Kind 255", "\x00\x00\x00\x00\x00\x01\xff\x01k\x00\x00\x00"},
		{"a put with a page", "\x00\x00\x00\x00\x00\x01\x01\x01k\x00\x00\x01"},
		{"a put with a page of two bytes", "\x00\x00\x00\x00\x00\x01\x01\x01k\x00\x01\x00"},
		{"a drop with a value", "\x00\x00\x00\x00\x00\x01\x02\x01k\x01v\x00\x00"},
		{"a drop with a page", "\x00\x00\x00\x00\x00\x01\x02\x01k\x00\x00\x01"},
		{"a split with a value", "\x00\x00\x00\x00\x00\x01\x03\x01k\x01v\x00\x00"},
		{"a split to 1001", "\x00\x00\x00\x00\x00\x01\x03\x01k\x00\x03\xe9"},
		{"a split to 65535", "\x00\x00\x00\x00\x00\x01\x03\x01k\x00\xff\xff"},
		{"a split at no key", "\x00\x00\x00\x00\x00\x01\x03\x00\x00\x00\x01"},
		{"a number cut in two", "\x00\x00\x00\x00\x00\x01\x03\x01k\x00\x00"},
	} {
		wantNoPage(t, c.name, []byte(c.b), impl.ErrForm)
	}
}
