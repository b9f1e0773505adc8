package tests

import (
	"bytes"
	"slices"
	"strings"

	"loop.example/g00163/impl"
)

// What follows says of a page what the document says, key by key and from the
// newest change back, as the program does not.

func plainKey(t string) bool {
	return len(t) > 0 && len(t) <= impl.MaxEntry
}

// plainBounds are the upper bound and the page to the right behind some of the changes.
func plainBounds(p impl.Page, changes int) (string, int) {
	for i := changes - 1; i >= 0; i-- {
		if p.Chain[i].Kind == impl.DeSplit {
			return p.Chain[i].Key, p.Chain[i].To
		}
	}
	return p.High, p.Right
}

func plainWithin(low, high, key string) bool {
	return strings.Compare(low, key) <= 0 && (high == "" || strings.Compare(key, high) < 0)
}

// plainDelta tells whether a change may stand behind the first changes of a page.
func plainDelta(p impl.Page, changes int, d impl.Delta) bool {
	high, _ := plainBounds(p, changes)
	if !plainKey(d.Key) || !plainWithin(p.Low, high, d.Key) {
		return false
	}
	return d.Kind == impl.DePut && len(d.Value) <= impl.MaxValue && d.To == 0 ||
		d.Kind == impl.DeDrop && d.Value == "" && d.To == 0 ||
		d.Kind == impl.DeSplit && d.Value == "" && d.To >= 0 && d.To <= impl.MaxId && d.Key != p.Low
}

// plainFind is the value of a key that is within the bounds of a page.
func plainFind(p impl.Page, key string) (string, bool) {
	for _, d := range slices.Backward(p.Chain) {
		if d.Key == key && d.Kind == impl.DePut {
			return d.Value, true
		}
		if d.Key == key && d.Kind == impl.DeDrop {
			return "", false
		}
	}
	for _, e := range p.Base {
		if e.Key == key {
			return e.Value, true
		}
	}
	return "", false
}

func plainEntries(p impl.Page) []impl.Entry {
	var keys []string
	for _, e := range p.Base {
		keys = append(keys, e.Key)
	}
	for _, d := range p.Chain {
		keys = append(keys, d.Key)
	}
	slices.Sort(keys)
	high, _ := plainBounds(p, len(p.Chain))
	var all []impl.Entry
	for _, key := range slices.Compact(keys) {
		if value, ok := plainFind(p, key); ok && plainWithin(p.Low, high, key) {
			all = append(all, impl.Entry{Key: key, Value: value})
		}
	}
	return all
}

func plainPageOK(p impl.Page) bool {
	if len(p.Low) > impl.MaxEntry || len(p.High) > impl.MaxEntry || len(p.Base) > impl.MaxBase || len(p.Chain) > impl.MaxChain {
		return false
	}
	if p.Right < -1 || p.Right > impl.MaxId || (p.Right == -1) != (p.High == "") || p.High != "" && p.Low >= p.High {
		return false
	}
	for i, e := range p.Base {
		if !plainKey(e.Key) || len(e.Value) > impl.MaxValue || !plainWithin(p.Low, p.High, e.Key) || i > 0 && p.Base[i-1].Key >= e.Key {
			return false
		}
	}
	for i, d := range p.Chain {
		if !plainDelta(p, i, d) {
			return false
		}
	}
	return len(plainEntries(p)) <= impl.MaxBase
}

func plainExtend(p impl.Page, d impl.Delta) (impl.Page, int) {
	q := p
	q.Chain = append(slices.Clone(p.Chain), d)
	switch {
	case !plainPageOK(p):
		return impl.Page{}, impl.ErrBad
	case !plainDelta(p, len(p.Chain), d):
		return impl.Page{}, impl.ErrRange
	case len(p.Chain) == impl.MaxChain:
		return impl.Page{}, impl.ErrFull
	case len(plainEntries(q)) > impl.MaxBase:
		return impl.Page{}, impl.ErrMany
	}
	return q, impl.OK
}

func plainTogether(p impl.Page) impl.Page {
	high, right := plainBounds(p, len(p.Chain))
	return impl.Page{Low: p.Low, High: high, Right: right, Base: plainEntries(p)}
}

// rawPage are the bytes of a page, right or not, where its numbers fit.
func rawPage(p impl.Page) []byte {
	var b bytes.Buffer
	text := func(list ...string) {
		for _, t := range list {
			b.WriteByte(byte(len(t)))
			b.WriteString(t)
		}
	}
	text(p.Low, p.High)
	b.Write([]byte{byte((p.Right + 1) / 256), byte((p.Right + 1) % 256), byte(len(p.Base))})
	for _, e := range p.Base {
		text(e.Key, e.Value)
	}
	b.WriteByte(byte(len(p.Chain)))
	for _, d := range p.Chain {
		b.WriteByte(byte(d.Kind))
		text(d.Key, d.Value)
		b.Write([]byte{byte(d.To / 256), byte(d.To % 256)})
	}
	return b.Bytes()
}

// plainReadPage takes bytes one by one; the last answer tells whether they
// were just enough.
func plainReadPage(b []byte) (impl.Page, bool) {
	at := 0
	one := func() int {
		at++
		if at > len(b) {
			return 0
		}
		return int(b[at-1])
	}
	text := func() string {
		n := one()
		at += n
		if at > len(b) {
			return ""
		}
		return string(b[at-n : at])
	}
	two := func() int {
		high := one()
		return high*256 + one()
	}
	var p impl.Page
	p.Low = text()
	p.High = text()
	p.Right = two() - 1
	for range one() {
		key := text()
		p.Base = append(p.Base, impl.Entry{Key: key, Value: text()})
	}
	for range one() {
		kind := one()
		key := text()
		value := text()
		p.Chain = append(p.Chain, impl.Delta{Kind: kind, Key: key, Value: value, To: two()})
	}
	return p, at == len(b)
}
