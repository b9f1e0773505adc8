package tests

import (
	"bytes"
	"cmp"
	"math"
	"strings"
	"testing"

	"loop.example/g00163/impl"
)

// risingParts are parts in their order: by Kind, then by what they have.
func risingParts() []impl.Part {
	var list []impl.Part
	for _, n := range []int{math.MinInt, -256, -1, 0, 1, 2, 255, math.MaxInt} {
		list = append(list, intPart(n))
	}
	for _, f := range []float64{floatOf(0xFFF8000000000001), math.Inf(-1), -1, negativeNought, 0, math.SmallestNonzeroFloat64, 1, math.Inf(1), floatOf(0x7FF0000000000001), floatOf(0x7FF8000000000001)} {
		list = append(list, floatPart(f))
	}
	for _, t := range []string{"", "\x00", "\x00\x00", "\x00\x01", "\x01", "A", "Z", "a", "a\x00", "a\x00b", "a\x01", "ab", "b", "\xff"} {
		list = append(list, textPart(t))
	}
	return list
}

// risingTuples are all lists of at most two of these parts, in their order.
func risingTuples() [][]impl.Part {
	list := [][]impl.Part{nil}
	for _, p := range risingParts() {
		list = append(list, []impl.Part{p})
		for _, q := range risingParts() {
			list = append(list, []impl.Part{p, q})
		}
	}
	return list
}

// manyParts are as many parts as there may be, some of each Kind.
func manyParts() []impl.Part {
	return []impl.Part{
		intPart(math.MinInt), floatPart(negativeNought), textPart(""),
		textPart("a\x00b\x01\xff"), floatPart(floatOf(0xFFF0000000000001)), intPart(258),
	}
}

func wrongParts() []impl.Part {
	long := strings.Repeat("a", impl.MaxKey+1)
	nan := math.NaN()
	return []impl.Part{
		{},
		{Kind: -1}, {Kind: 4}, {Kind: 255}, {Kind: 256}, {Kind: 257}, {Kind: 258}, {Kind: 259},
		{Kind: -255}, {Kind: 1<<32 + 1}, {Kind: math.MinInt}, {Kind: math.MaxInt},
		{N: 1}, {F: 1}, {T: "a"},
		{Kind: impl.PtInt, F: 1}, {Kind: impl.PtInt, F: negativeNought}, {Kind: impl.PtInt, F: nan},
		{Kind: impl.PtInt, F: math.SmallestNonzeroFloat64}, {Kind: impl.PtInt, T: "a"}, {Kind: impl.PtInt, T: "\x00"},
		{Kind: impl.PtFloat, N: 1}, {Kind: impl.PtFloat, N: -1}, {Kind: impl.PtFloat, N: math.MinInt}, {Kind: impl.PtFloat, T: "a"}, {Kind: impl.PtFloat, T: "\x00"},
		{Kind: impl.PtText, N: 1}, {Kind: impl.PtText, N: math.MinInt}, {Kind: impl.PtText, F: 1}, {Kind: impl.PtText, F: negativeNought}, {Kind: impl.PtText, F: nan},
		{Kind: impl.PtText, T: long}, {Kind: impl.PtText, T: strings.Repeat("a", impl.MaxText+1)},
	}
}

func wantNoTuple(t *testing.T, b []byte, want int) {
	t.Helper()
	parts, code := impl.ReadTuple(b)
	if len(parts) != 0 || code != want {
		t.Errorf("ReadTuple(%q) = %d parts, %d, not code %d", shorten(string(b)), len(parts), code, want)
	}
}

func wantReadBack(t *testing.T, parts []impl.Part) {
	t.Helper()
	key := tupleKey(t, parts...)
	if got, code := impl.ReadTuple(key); !sameParts(got, parts) || code != impl.OK {
		t.Errorf("ReadTuple(%q) = %q, %d, not %q", key, toldParts(got), code, toldParts(parts))
	}
}

func TestTupleKeysOfTheDocument(t *testing.T) {
	for _, c := range []struct {
		parts []impl.Part
		want  string
	}{
		{nil, ""},
		{[]impl.Part{}, ""},
		{[]impl.Part{intPart(258)}, "\x01\x80\x00\x00\x00\x00\x00\x01\x02"},
		{[]impl.Part{intPart(-1)}, "\x01\x7f\xff\xff\xff\xff\xff\xff\xff"},
		{[]impl.Part{floatPart(1)}, "\x02\xbf\xf0\x00\x00\x00\x00\x00\x00"},
		{[]impl.Part{floatPart(negativeNought)}, "\x02\x7f\xff\xff\xff\xff\xff\xff\xff"},
		{[]impl.Part{textPart("")}, "\x03\x00\x01"},
		{[]impl.Part{textPart("a\x00b")}, "\x03a\x00\xffb\x00\x01"},
		{[]impl.Part{textPart("k"), intPart(0), floatPart(0)}, "\x03k\x00\x01\x01\x80\x00\x00\x00\x00\x00\x00\x00\x02\x80\x00\x00\x00\x00\x00\x00\x00"},
		{repeatPart(textPart(""), impl.MaxParts), strings.Repeat("\x03\x00\x01", impl.MaxParts)},
	} {
		if got := tupleKey(t, c.parts...); string(got) != c.want {
			t.Errorf("TupleKey(%q) = %q, not %q", toldParts(c.parts), got, c.want)
		}
	}
}

func TestTupleKeysRise(t *testing.T) {
	list := risingTuples()
	var keys [][]byte
	for _, parts := range list {
		keys = append(keys, tupleKey(t, parts...))
	}
	wantRising(t, keys)
}

func TestCompareParts(t *testing.T) {
	list := risingTuples()
	for i := range list {
		for k := range list {
			if got, code := impl.CompareParts(list[i], list[k]); got != cmp.Compare(i, k) || code != impl.OK {
				t.Fatalf("CompareParts(%q, %q) = %d, %d", toldParts(list[i]), toldParts(list[k]), got, code)
			}
		}
	}
}

func TestCompareTheLastOfManyParts(t *testing.T) {
	ahead, behind := manyParts(), manyParts()
	behind[impl.MaxParts-1].N++
	if got, code := impl.CompareParts(ahead, behind); got != -1 || code != impl.OK {
		t.Errorf("CompareParts ahead = %d, %d", got, code)
	}
	if got, code := impl.CompareParts(behind, ahead); got != 1 || code != impl.OK {
		t.Errorf("CompareParts behind = %d, %d", got, code)
	}
	if got, code := impl.CompareParts(ahead, manyParts()); got != 0 || code != impl.OK {
		t.Errorf("CompareParts alike = %d, %d", got, code)
	}
	if bytes.Compare(tupleKey(t, ahead...), tupleKey(t, behind...)) != -1 {
		t.Error("the keys of many parts do not rise")
	}
}

func TestTupleKeysAreReadBack(t *testing.T) {
	for _, parts := range risingTuples() {
		wantReadBack(t, parts)
	}
	wantReadBack(t, manyParts())
	wantReadBack(t, repeatPart(textPart(strings.Repeat("\x00", impl.MaxKey)), impl.MaxParts))
	for _, n := range risingInts() {
		wantReadBack(t, []impl.Part{intPart(n), textPart("a"), intPart(n)})
	}
	for _, f := range risingFloats() {
		wantReadBack(t, []impl.Part{floatPart(f), textPart("\x00"), floatPart(f)})
	}
	for _, text := range risingTexts() {
		wantReadBack(t, []impl.Part{textPart(text), intPart(1), textPart(text)})
	}
}

func TestPartsThatAreNotRight(t *testing.T) {
	for _, wrong := range wrongParts() {
		for _, parts := range [][]impl.Part{
			{wrong},
			{intPart(1), wrong},
			{wrong, textPart("a")},
			{intPart(1), floatPart(1), textPart("a"), intPart(2), floatPart(2), wrong},
		} {
			if key, code := impl.TupleKey(parts); len(key) != 0 || code != impl.ErrBad {
				t.Errorf("TupleKey with a part of Kind %d = %q, %d", wrong.Kind, key, code)
			}
			for _, right := range [][]impl.Part{nil, {intPart(0)}, {textPart("z")}} {
				if n, code := impl.CompareParts(parts, right); n != 0 || code != impl.ErrBad {
					t.Errorf("CompareParts of a wrong part of Kind %d = %d, %d", wrong.Kind, n, code)
				}
				if n, code := impl.CompareParts(right, parts); n != 0 || code != impl.ErrBad {
					t.Errorf("CompareParts with a wrong part of Kind %d = %d, %d", wrong.Kind, n, code)
				}
			}
		}
	}
	if _, code := impl.TupleKey([]impl.Part{textPart(strings.Repeat("a", impl.MaxKey))}); code != impl.OK {
		t.Errorf("TupleKey of a text of MaxKey bytes: code %d", code)
	}
}

func TestPartsThatAreTooMany(t *testing.T) {
	right := manyParts()
	for _, c := range []struct{ size, code int }{
		{impl.MaxParts + 1, impl.ErrBad},
		{impl.MaxParts + 256, impl.ErrBad},
		{impl.MaxList, impl.ErrBad},
		{impl.MaxList + 1, impl.ErrLong},
		{2 * impl.MaxList, impl.ErrLong},
	} {
		for _, p := range []impl.Part{intPart(1), {}} {
			parts := repeatPart(p, c.size)
			if key, code := impl.TupleKey(parts); len(key) != 0 || code != c.code {
				t.Errorf("TupleKey of %d parts = %d bytes, %d, not code %d", c.size, len(key), code, c.code)
			}
			if n, code := impl.CompareParts(parts, right); n != 0 || code != c.code {
				t.Errorf("CompareParts of %d parts = %d, %d, not code %d", c.size, n, code, c.code)
			}
			if n, code := impl.CompareParts(right, parts); n != 0 || code != c.code {
				t.Errorf("CompareParts with %d parts = %d, %d, not code %d", c.size, n, code, c.code)
			}
		}
	}
	bad, long := []impl.Part{{}}, repeatPart(intPart(1), impl.MaxList+1)
	if n, code := impl.CompareParts(bad, long); n != 0 || code != impl.ErrLong {
		t.Errorf("CompareParts of a wrong and a long list = %d, %d", n, code)
	}
	if n, code := impl.CompareParts(long, bad); n != 0 || code != impl.ErrLong {
		t.Errorf("CompareParts of a long and a wrong list = %d, %d", n, code)
	}
}

func TestBytesWhereNoPartStands(t *testing.T) {
	for c := range 256 {
		if c < impl.PtInt || c > impl.PtText {
			wantNoTuple(t, append([]byte{byte(c)}, make([]byte, 8)...), impl.ErrForm)
		}
		wantNoTuple(t, []byte{byte(c)}, impl.ErrForm)
		wantNoTuple(t, append(tupleKey(t, textPart("a")), byte(c)), impl.ErrForm)
		wantNoTuple(t, append(tupleKey(t, manyParts()...), byte(c)), impl.ErrForm)
	}
	long := append([]byte{impl.PtText}, plainTextKey(strings.Repeat("a", impl.MaxKey+1))...)
	wantNoTuple(t, long, impl.ErrForm)
	wantNoTuple(t, []byte("\x03a\x00\x02"), impl.ErrForm)
	wantNoTuple(t, []byte("\x03a\x00\x00\x00\x01"), impl.ErrForm)
}

func TestTupleKeysThatAreCutOff(t *testing.T) {
	var whole []byte
	ends := map[int]int{0: 0}
	for i, p := range manyParts() {
		whole = append(whole, tupleKey(t, p)...)
		ends[len(whole)] = i + 1
	}
	for end := range len(whole) + 1 {
		count, ok := ends[end]
		if !ok {
			wantNoTuple(t, whole[:end], impl.ErrForm)
			continue
		}
		if got, code := impl.ReadTuple(whole[:end]); !sameParts(got, manyParts()[:count]) || code != impl.OK {
			t.Errorf("ReadTuple of %d bytes = %q, %d", end, toldParts(got), code)
		}
	}
}

func TestTuplesOfTooManyParts(t *testing.T) {
	six := tupleKey(t, manyParts()...)
	for _, p := range risingParts() {
		seven := append(bytes.Clone(six), tupleKey(t, p)...)
		wantNoTuple(t, seven, impl.ErrMany)
		wantNoTuple(t, append(bytes.Clone(seven), 0), impl.ErrMany)
		wantNoTuple(t, append(bytes.Clone(seven), seven...), impl.ErrMany)
		for end := len(six) + 1; end < len(seven); end++ {
			wantNoTuple(t, seven[:end], impl.ErrForm)
		}
	}
	long := plainTextKey(strings.Repeat("a", impl.MaxKey+1))
	wantNoTuple(t, append(append(bytes.Clone(six), impl.PtText), long...), impl.ErrForm)
	wantNoTuple(t, append(tupleKey(t, textPart("a")), append([]byte{9}, six...)...), impl.ErrForm)
}

func TestBytesOfTuplesThatAreTooLong(t *testing.T) {
	many := bytes.Repeat(tupleKey(t, textPart("a")), impl.MaxText/4+1)
	wantNoTuple(t, many[:impl.MaxText], impl.ErrMany)
	wantNoTuple(t, many[:impl.MaxText+1], impl.ErrLong)
	wantNoTuple(t, make([]byte, impl.MaxText), impl.ErrForm)
	wantNoTuple(t, make([]byte, impl.MaxText+1), impl.ErrLong)
	for _, empty := range [][]byte{nil, {}} {
		if parts, code := impl.ReadTuple(empty); len(parts) != 0 || code != impl.OK {
			t.Errorf("ReadTuple of nothing = %q, %d", toldParts(parts), code)
		}
	}
}
