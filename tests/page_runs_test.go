package tests

import (
	"slices"
	"testing"

	"loop.example/g00163/impl"
)

// someKey is one of few, so that many meet; some are no keys at all.
func someKey(next func() uint64) string {
	switch next() % 40 {
	case 0:
		return ""
	case 1:
		return longKey
	case 2:
		return tooLongKey
	}
	const letters = "\x00abcdefgh\xff"
	key := ""
	for range 1 + next()%2 {
		key += string(letters[next()%uint64(len(letters))])
	}
	return key
}

func someValue(next func() uint64) string {
	switch next() % 30 {
	case 0:
		return longValue
	case 1:
		return tooLong
	}
	return []string{"", "v", "w"}[next()%3]
}

// someDelta is mostly right by itself.
func someDelta(next func() uint64) impl.Delta {
	key := someKey(next)
	switch next() % 12 {
	case 0, 1, 2, 3, 4, 5:
		return put(key, someValue(next))
	case 6, 7, 8:
		return drop(key)
	case 9, 10:
		return split(key, []int{0, 1, 7, impl.MaxId, impl.MaxId + 1, -1}[next()%6])
	}
	return impl.Delta{Kind: int(next()%5) - 1, Key: key, Value: someValue(next), To: int(next() % 2)}
}

// somePage is mostly right, its bounds and entries of few letters.
func somePage(next func() uint64) impl.Page {
	p := impl.Page{Low: someKey(next), High: someKey(next), Right: int(next()%4) - 1}
	if next()%8 != 0 {
		p.Low, p.High = min(p.Low, p.High), max(p.Low, p.High)
	}
	if next()%2 == 0 {
		p.Low = ""
	}
	if next()%2 == 0 {
		p.High = ""
	}
	if next()%16 != 0 && p.High == "" {
		p.Right = -1
	}
	for range next() % 50 {
		key := someKey(next)
		if next()%64 != 0 && !plainWithin(p.Low, p.High, key) || next()%64 != 0 && !plainKey(key) {
			continue
		}
		p.Base = append(p.Base, impl.Entry{Key: key, Value: []string{"", "1", "2", longValue}[next()%4]})
	}
	if next()%16 != 0 {
		slices.SortFunc(p.Base, func(a, b impl.Entry) int { return slices.Compare([]byte(a.Key), []byte(b.Key)) })
		p.Base = slices.CompactFunc(p.Base, func(a, b impl.Entry) bool { return a.Key == b.Key })
	}
	for range next() % 15 {
		d := someDelta(next)
		if next()%64 == 0 || plainDelta(p, len(p.Chain), d) {
			p.Chain = append(p.Chain, d)
		}
	}
	return p
}

// askPage holds all that may be asked of a page against what the document says of it.
func askPage(t *testing.T, p impl.Page) {
	t.Helper()
	ok := plainPageOK(p)
	if impl.PageOK(p) != ok {
		t.Fatalf("PageOK is not %v of %q", ok, told([]any{p}))
	}
	if !ok {
		return
	}
	q := together(t, p)
	wantPage(t, "put together", q, plainTogether(p))
	high, right, code := impl.Bounds(p)
	if wantHigh, wantRight := plainBounds(p, len(p.Chain)); high != wantHigh || right != wantRight || code != impl.OK {
		t.Errorf("Bounds: %q, %d, code %d", high, right, code)
	}
	for _, key := range askedKeys(p) {
		value, found := plainFind(p, key)
		to, code := 0, impl.OK
		switch {
		case !plainKey(key):
			value, code = "", impl.ErrBad
		case key < p.Low:
			value, code = "", impl.ErrRange
		case !plainWithin(p.Low, high, key):
			value, to, code = "", right, impl.ErrGone
		case !found:
			code = impl.ErrNone
		}
		wantFind(t, "a page", p, key, value, to, code)
		wantFind(t, "the page put together", q, key, value, to, code)
	}
	for _, one := range []impl.Page{p, q} {
		back, code := impl.ReadPage(pageBytes(t, one))
		if code != impl.OK {
			t.Errorf("ReadPage: code %d", code)
		}
		wantPage(t, "read back", back, one)
	}
}

// askedKeys are all that a page names, and what stands just behind these.
func askedKeys(p impl.Page) []string {
	keys := []string{"", "\x00", "zz", longKey, tooLongKey, p.Low, p.High, p.Low + "\x00", p.High + "\x00"}
	for _, e := range p.Base {
		keys = append(keys, e.Key, e.Key+"\x00")
	}
	for _, d := range p.Chain {
		keys = append(keys, d.Key, d.Key+"\x00")
	}
	return keys
}

func TestPagesDoWhatTheDocumentSays(t *testing.T) {
	next := numbers(17)
	right := 0
	for range 4000 {
		p := somePage(next)
		askPage(t, p)
		if plainPageOK(p) {
			right++
		}
		d := someDelta(next)
		want, wantCode := plainExtend(p, d)
		got, code := impl.Extend(p, d)
		if code != wantCode {
			t.Fatalf("Extend: code %d, want %d", code, wantCode)
		}
		wantPage(t, "extended", got, want)
	}
	if right < 1000 || right > 3900 {
		t.Errorf("%d of 4000 pages are right", right)
	}
}

// A page that is extended, and put together now and then, is what its changes
// make one behind the other.
func TestRunsOfChanges(t *testing.T) {
	next := numbers(19)
	seen := map[int]int{}
	for range 60 {
		p := impl.Page{Low: "a", High: "h\xff", Right: 3}
		if next()%2 == 0 {
			p = whole(nil)
		}
		plain := p
		for range 200 {
			if next()%7 == 0 {
				p = together(t, p)
				plain = plainTogether(plain)
			}
			d := someDelta(next)
			if d.Kind == impl.DeSplit && next()%16 != 0 {
				continue
			}
			got, code := impl.Extend(p, d)
			want, wantCode := plainExtend(plain, d)
			seen[code]++
			if code != wantCode {
				t.Fatalf("Extend: code %d, want %d", code, wantCode)
			}
			if code == impl.OK {
				p, plain = got, want
			}
			wantPage(t, "behind a change", p, plain)
		}
		askPage(t, p)
	}
	for _, code := range []int{impl.OK, impl.ErrRange, impl.ErrFull, impl.ErrMany} {
		if seen[code] < 20 {
			t.Errorf("code %d was seen %d times", code, seen[code])
		}
	}
}
