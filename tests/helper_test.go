package tests

import (
	"bytes"
	"cmp"
	"math"
	"strconv"
	"strings"
	"testing"

	"loop.example/g00163/impl"
)

var negativeNought = math.Copysign(0, -1)

// numbers gives the same run of numbers each time: tests must not differ from run to run.
func numbers(seed uint64) func() uint64 {
	return func() uint64 {
		seed ^= seed << 13
		seed ^= seed >> 7
		seed ^= seed << 17
		return seed
	}
}

func floatOf(bits uint64) float64 {
	return math.Float64frombits(bits)
}

func intPart(n int) impl.Part {
	return impl.Part{Kind: impl.PtInt, N: n}
}

func floatPart(f float64) impl.Part {
	return impl.Part{Kind: impl.PtFloat, F: f}
}

func textPart(t string) impl.Part {
	return impl.Part{Kind: impl.PtText, T: t}
}

func samePart(a, b impl.Part) bool {
	return a.Kind == b.Kind && a.N == b.N && math.Float64bits(a.F) == math.Float64bits(b.F) && a.T == b.T
}

func sameParts(a, b []impl.Part) bool {
	if len(a) != len(b) {
		return false
	}
	for i := range a {
		if !samePart(a[i], b[i]) {
			return false
		}
	}
	return true
}

// toldParts tells every bit of the parts.
func toldParts(parts []impl.Part) string {
	var told []byte
	for _, p := range parts {
		for _, n := range []uint64{uint64(p.Kind), uint64(p.N), math.Float64bits(p.F), uint64(len(p.T))} {
			told = strconv.AppendUint(told, n, 16)
			told = append(told, ' ')
		}
		told = append(told, p.T...)
	}
	return string(told)
}

func repeatPart(p impl.Part, n int) []impl.Part {
	list := make([]impl.Part, n)
	for i := range list {
		list[i] = p
	}
	return list
}

func tupleKey(t *testing.T, parts ...impl.Part) []byte {
	t.Helper()
	key, code := impl.TupleKey(parts)
	if code != impl.OK {
		t.Fatalf("TupleKey(%q): code %d", toldParts(parts), code)
	}
	return key
}

func textKey(t *testing.T, text string) []byte {
	t.Helper()
	key, code := impl.TextKey(text)
	if code != impl.OK {
		t.Fatalf("TextKey(%q): code %d", text, code)
	}
	return key
}

// wantRising asks that each key stands before all that come behind it in the list.
func wantRising(t *testing.T, keys [][]byte) {
	t.Helper()
	for i := range keys {
		for k := range keys {
			if got := bytes.Compare(keys[i], keys[k]); got != cmp.Compare(i, k) {
				t.Fatalf("keys %d (%x) and %d (%x) are ordered %d", i, keys[i], k, keys[k], got)
			}
		}
	}
}

func shorten(t string) string {
	if len(t) > 60 {
		return t[:60] + ".."
	}
	return t
}

// risingTexts are texts in the order of their bytes.
func risingTexts() []string {
	return []string{
		"",
		"\x00",
		"\x00\x00",
		"\x00\x00\x01",
		"\x00\x01",
		"\x00\x01\x00",
		"\x00\xff",
		"\x00\xff\x00",
		"\x01",
		"\x01\x00",
		"\x01\x01",
		"\x02",
		"A",
		"a",
		"a\x00",
		"a\x00\x00",
		"a\x00\x01",
		"a\x00\x02",
		"a\x00b",
		"a\x00\xff",
		"a\x01",
		"aa",
		strings.Repeat("a", impl.MaxKey-1),
		strings.Repeat("a", impl.MaxKey-1) + "\x00",
		strings.Repeat("a", impl.MaxKey),
		"ab",
		"b",
		"\x7f",
		"\x80",
		"\xc3\xa4",
		"\xff",
		"\xff\x00",
		"\xff\x01",
		"\xff\xff",
		strings.Repeat("\xff", impl.MaxKey),
	}
}

// risingFloats are floats in the order of their keys.
func risingFloats() []float64 {
	return []float64{
		floatOf(0xFFFFFFFFFFFFFFFF),
		floatOf(0xFFF8000000000001),
		floatOf(0xFFF8000000000000),
		floatOf(0xFFF0000000000001),
		math.Inf(-1),
		-math.MaxFloat64,
		-1e100,
		-2,
		-1.5,
		-1,
		-0.5,
		floatOf(0x8010000000000000),
		floatOf(0x800FFFFFFFFFFFFF),
		-2 * math.SmallestNonzeroFloat64,
		-math.SmallestNonzeroFloat64,
		negativeNought,
		0,
		math.SmallestNonzeroFloat64,
		2 * math.SmallestNonzeroFloat64,
		floatOf(0x000FFFFFFFFFFFFF),
		floatOf(0x0010000000000000),
		0.5,
		1,
		floatOf(0x3FF0000000000001),
		1.5,
		2,
		1e100,
		math.MaxFloat64,
		math.Inf(1),
		floatOf(0x7FF0000000000001),
		floatOf(0x7FF8000000000000),
		floatOf(0x7FF8000000000001),
		floatOf(0x7FFFFFFFFFFFFFFF),
	}
}

// risingInts are whole numbers in their order.
func risingInts() []int {
	return []int{
		math.MinInt, math.MinInt + 1, -1 << 62, -1<<32 - 1, -1 << 32, -65537, -257, -256, -255, -2, -1,
		0, 1, 2, 127, 128, 255, 256, 257, 258, 65535, 65536, 1<<31 - 1, 1 << 31, 1 << 32, 1 << 53, 1 << 62, math.MaxInt - 1, math.MaxInt,
	}
}
