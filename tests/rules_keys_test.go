package tests

import (
	"bytes"
	"math"
	"slices"
	"strings"
	"testing"

	"loop.example/g00163/impl"
)

func givenTexts() []string {
	return []string{
		"", "a", "ok", "conflict", "a\x00b", "\x00", "\x01", "\xff",
		strings.Repeat("\x00", impl.MaxKey), strings.Repeat("a", impl.MaxKey+1),
		strings.Repeat("a", impl.MaxText), strings.Repeat("a", impl.MaxText+1),
	}
}

func givenBytes(t *testing.T) [][]byte {
	six := tupleKey(t, manyParts()...)
	return [][]byte{
		nil, {}, {0}, {1}, {2}, {3}, {0, 1}, {0, 255}, {0, 2}, {255},
		impl.IntKey(-7), impl.FloatKey(-7.5), impl.IntKey(math.MaxInt)[:7], append(impl.IntKey(7), 0),
		textKey(t, "a\x00b"), append(textKey(t, "ab"), "behind"...), textKey(t, strings.Repeat("\x00", impl.MaxKey)),
		plainTextKey(strings.Repeat("a", impl.MaxKey+1)),
		tupleKey(t, intPart(1)), tupleKey(t, floatPart(math.NaN())), tupleKey(t, textPart("abc"), textPart("abc"), textPart("d\x00e")),
		six, six[:len(six)-1], append(bytes.Clone(six), 1), append(bytes.Clone(six), six...),
		bytes.Repeat([]byte{3, 'a', 0, 1}, impl.MaxText/4), bytes.Repeat([]byte{'a'}, impl.MaxText), make([]byte, impl.MaxText), make([]byte, impl.MaxText+1),
	}
}

func givenParts() [][]impl.Part {
	list := [][]impl.Part{
		nil, {}, {intPart(1)}, {floatPart(negativeNought)}, {textPart("a\x00b")}, {textPart("a"), textPart("b"), intPart(2)},
		manyParts(), repeatPart(intPart(1), impl.MaxParts+1), repeatPart(intPart(1), impl.MaxList), repeatPart(intPart(1), impl.MaxList+1),
	}
	for _, p := range wrongParts() {
		list = append(list, []impl.Part{intPart(1), p})
	}
	return list
}

func keyCalls(t *testing.T) []call {
	ints := append(risingInts(), -13, 3, 9, 12, 13)
	floats := risingFloats()
	var twoFloats, places, twoLists [][]any
	for i, f := range floats {
		twoFloats = append(twoFloats, []any{f, floats[(i*7+3)%len(floats)]}, []any{f, f})
	}
	for _, b := range givenBytes(t) {
		for _, at := range []int{math.MinInt, -1, 0, 1, 2, len(b) - 1, len(b), len(b) + 1, math.MaxInt} {
			places = append(places, []any{b, at})
		}
	}
	lists := givenParts()
	for i, p := range lists {
		twoLists = append(twoLists, []any{p, lists[len(lists)-1-i]}, []any{p, p}, []any{p, lists[0]}, []any{lists[0], p})
	}
	return slices.Concat(
		plain("NameOK", impl.NameOK, each(givenTexts())),
		plain("CodeWord", impl.CodeWord, each(ints)),
		plain("CodeOf", impl.CodeOf, each(givenTexts())),
		plain("IntKey", impl.IntKey, each(ints)),
		coded("KeyInt", impl.KeyInt, each(givenBytes(t))),
		plain("FloatKey", impl.FloatKey, each(floats)),
		coded("KeyFloat", impl.KeyFloat, each(givenBytes(t))),
		plain("CompareFloats", impl.CompareFloats, twoFloats),
		coded("TextKey", impl.TextKey, each(givenTexts())),
		coded("KeyText", impl.KeyText, places),
		coded("TupleKey", impl.TupleKey, each(givenParts())),
		coded("ReadTuple", impl.ReadTuple, each(givenBytes(t))),
		coded("CompareParts", impl.CompareParts, twoLists),
	)
}
