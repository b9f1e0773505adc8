package tests

import (
	"bytes"
	"cmp"
	"encoding/binary"
	"math"
	"testing"

	"loop.example/g00163/impl"
)

// eightBytes are keys of eight bytes that no function of the program made.
func eightBytes() [][]byte {
	next := numbers(11)
	list := [][]byte{
		make([]byte, 8),
		bytes.Repeat([]byte{255}, 8),
		{0, 1, 2, 3, 4, 5, 6, 7},
		{255, 254, 253, 252, 251, 250, 249, 248},
		{128, 0, 0, 0, 0, 0, 0, 0},
		{127, 255, 255, 255, 255, 255, 255, 255},
	}
	for range 200 {
		list = append(list, binary.BigEndian.AppendUint64(nil, next()))
	}
	return list
}

func wantIntKey(n int) []byte {
	return binary.BigEndian.AppendUint64(nil, uint64(n)^0x8000000000000000)
}

func wantFloatKey(f float64) []byte {
	bits := math.Float64bits(f)
	if bits>>63 == 1 {
		return binary.BigEndian.AppendUint64(nil, 0xFFFFFFFFFFFFFFFF-bits)
	}
	return binary.BigEndian.AppendUint64(nil, bits+0x8000000000000000)
}

func TestIntKeysOfTheDocument(t *testing.T) {
	for _, c := range []struct {
		n    int
		want string
	}{
		{math.MinInt, "\x00\x00\x00\x00\x00\x00\x00\x00"},
		{math.MinInt + 1, "\x00\x00\x00\x00\x00\x00\x00\x01"},
		{-1, "\x7f\xff\xff\xff\xff\xff\xff\xff"},
		{0, "\x80\x00\x00\x00\x00\x00\x00\x00"},
		{1, "\x80\x00\x00\x00\x00\x00\x00\x01"},
		{0x0102030405060708, "\x81\x02\x03\x04\x05\x06\x07\x08"},
		{math.MaxInt, "\xff\xff\xff\xff\xff\xff\xff\xff"},
	} {
		if got := impl.IntKey(c.n); string(got) != c.want {
			t.Errorf("IntKey(%d) = %x, not %x", c.n, got, c.want)
		}
	}
}

func TestIntKeysRise(t *testing.T) {
	var keys [][]byte
	for _, n := range risingInts() {
		keys = append(keys, impl.IntKey(n))
	}
	wantRising(t, keys)
}

func TestIntKeysAreReadBack(t *testing.T) {
	list := risingInts()
	next := numbers(3)
	for range 1000 {
		list = append(list, int(next()))
	}
	for _, n := range list {
		key := impl.IntKey(n)
		if !bytes.Equal(key, wantIntKey(n)) {
			t.Errorf("IntKey(%d) = %x", n, key)
		}
		if got, code := impl.KeyInt(key); got != n || code != impl.OK {
			t.Errorf("KeyInt(%x) = %d, %d, not %d", key, got, code, n)
		}
	}
	for _, key := range eightBytes() {
		n, code := impl.KeyInt(key)
		if code != impl.OK || !bytes.Equal(wantIntKey(n), key) {
			t.Errorf("KeyInt(%x) = %d, %d", key, n, code)
		}
	}
}

func TestFloatKeysOfTheDocument(t *testing.T) {
	for _, c := range []struct {
		f    float64
		want string
	}{
		{floatOf(0xFFFFFFFFFFFFFFFF), "\x00\x00\x00\x00\x00\x00\x00\x00"},
		{math.Inf(-1), "\x00\x0f\xff\xff\xff\xff\xff\xff"},
		{-1, "\x40\x0f\xff\xff\xff\xff\xff\xff"},
		{-math.SmallestNonzeroFloat64, "\x7f\xff\xff\xff\xff\xff\xff\xfe"},
		{negativeNought, "\x7f\xff\xff\xff\xff\xff\xff\xff"},
		{0, "\x80\x00\x00\x00\x00\x00\x00\x00"},
		{math.SmallestNonzeroFloat64, "\x80\x00\x00\x00\x00\x00\x00\x01"},
		{1, "\xbf\xf0\x00\x00\x00\x00\x00\x00"},
		{math.Inf(1), "\xff\xf0\x00\x00\x00\x00\x00\x00"},
		{floatOf(0x7FF0000000000001), "\xff\xf0\x00\x00\x00\x00\x00\x01"},
		{floatOf(0x7FFFFFFFFFFFFFFF), "\xff\xff\xff\xff\xff\xff\xff\xff"},
	} {
		if got := impl.FloatKey(c.f); string(got) != c.want {
			t.Errorf("FloatKey(%x) = %x, not %x", math.Float64bits(c.f), got, c.want)
		}
	}
}

func TestFloatKeysRise(t *testing.T) {
	var keys [][]byte
	for _, f := range risingFloats() {
		keys = append(keys, impl.FloatKey(f))
	}
	wantRising(t, keys)
}

func TestFloatKeysAreReadBack(t *testing.T) {
	list := risingFloats()
	next := numbers(5)
	for range 1000 {
		list = append(list, floatOf(next()))
	}
	for _, f := range list {
		key := impl.FloatKey(f)
		if !bytes.Equal(key, wantFloatKey(f)) {
			t.Errorf("FloatKey(%x) = %x", math.Float64bits(f), key)
		}
		if got, code := impl.KeyFloat(key); math.Float64bits(got) != math.Float64bits(f) || code != impl.OK {
			t.Errorf("KeyFloat(%x) = %x, %d, not %x", key, math.Float64bits(got), code, math.Float64bits(f))
		}
	}
	for _, key := range eightBytes() {
		f, code := impl.KeyFloat(key)
		if code != impl.OK || !bytes.Equal(wantFloatKey(f), key) {
			t.Errorf("KeyFloat(%x) = %x, %d", key, math.Float64bits(f), code)
		}
	}
}

func TestCompareFloatsAsTheirKeys(t *testing.T) {
	list := risingFloats()
	for i := range list {
		for k := range list {
			if got := impl.CompareFloats(list[i], list[k]); got != cmp.Compare(i, k) {
				t.Errorf("CompareFloats(%x, %x) = %d", math.Float64bits(list[i]), math.Float64bits(list[k]), got)
			}
		}
	}
	next := numbers(7)
	for range 2000 {
		a, b := floatOf(next()), floatOf(next())
		want := bytes.Compare(wantFloatKey(a), wantFloatKey(b))
		if a < b {
			want = -1
		} else if a > b {
			want = 1
		}
		if got := impl.CompareFloats(a, b); got != want {
			t.Errorf("CompareFloats(%x, %x) = %d, not %d", math.Float64bits(a), math.Float64bits(b), got, want)
		}
		if got := impl.CompareFloats(a, a); got != 0 {
			t.Errorf("CompareFloats(%x) with itself = %d", math.Float64bits(a), got)
		}
	}
}

func TestKeysOfOtherThanEightBytes(t *testing.T) {
	for _, c := range []struct{ size, code int }{
		{0, impl.ErrForm}, {1, impl.ErrForm}, {2, impl.ErrForm}, {3, impl.ErrForm}, {4, impl.ErrForm},
		{5, impl.ErrForm}, {6, impl.ErrForm}, {7, impl.ErrForm}, {9, impl.ErrForm}, {10, impl.ErrForm},
		{16, impl.ErrForm}, {264, impl.ErrForm}, {impl.MaxText, impl.ErrForm},
		{impl.MaxText + 1, impl.ErrLong}, {impl.MaxText + 8, impl.ErrLong},
	} {
		key := bytes.Repeat([]byte{200}, c.size)
		if n, code := impl.KeyInt(key); n != 0 || code != c.code {
			t.Errorf("KeyInt of %d bytes = %d, %d, not code %d", c.size, n, code, c.code)
		}
		if f, code := impl.KeyFloat(key); math.Float64bits(f) != 0 || code != c.code {
			t.Errorf("KeyFloat of %d bytes = %x, %d, not code %d", c.size, math.Float64bits(f), code, c.code)
		}
	}
	if n, code := impl.KeyInt(nil); n != 0 || code != impl.ErrForm {
		t.Errorf("KeyInt(nil) = %d, %d", n, code)
	}
	if f, code := impl.KeyFloat(nil); math.Float64bits(f) != 0 || code != impl.ErrForm {
		t.Errorf("KeyFloat(nil) = %x, %d", math.Float64bits(f), code)
	}
}
