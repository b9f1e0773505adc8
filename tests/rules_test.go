package tests

import (
	"bytes"
	"fmt"
	"math"
	"strings"
	"testing"

	"loop.example/g00163/impl"
)

// given is what the functions are handed; each takes of it what it asks for.
type given struct {
	n, at int
	f, g  float64
	t     string
	b     []byte
	p, q  []impl.Part
}

// answer is what a function answers; what it has none of is zero.
type answer struct {
	code, number, place int
	yes                 bool
	float               float64
	text                string
	bytes               []byte
	parts               []impl.Part
}

type function struct {
	name string
	call func(x given) answer
}

func functions() []function {
	return []function{
		{"NameOK", func(x given) answer { return answer{yes: impl.NameOK(x.t)} }},
		{"CodeWord", func(x given) answer { return answer{text: impl.CodeWord(x.n)} }},
		{"CodeOf", func(x given) answer { return answer{number: impl.CodeOf(x.t)} }},
		{"IntKey", func(x given) answer { return answer{bytes: impl.IntKey(x.n)} }},
		{"KeyInt", func(x given) answer {
			n, code := impl.KeyInt(x.b)
			return answer{number: n, code: code}
		}},
		{"FloatKey", func(x given) answer { return answer{bytes: impl.FloatKey(x.f)} }},
		{"KeyFloat", func(x given) answer {
			f, code := impl.KeyFloat(x.b)
			return answer{float: f, code: code}
		}},
		{"CompareFloats", func(x given) answer { return answer{number: impl.CompareFloats(x.f, x.g)} }},
		{"TextKey", func(x given) answer {
			b, code := impl.TextKey(x.t)
			return answer{bytes: b, code: code}
		}},
		{"KeyText", func(x given) answer {
			text, next, code := impl.KeyText(x.b, x.at)
			return answer{text: text, place: next, code: code}
		}},
		{"TupleKey", func(x given) answer {
			b, code := impl.TupleKey(x.p)
			return answer{bytes: b, code: code}
		}},
		{"ReadTuple", func(x given) answer {
			parts, code := impl.ReadTuple(x.b)
			return answer{parts: parts, code: code}
		}},
		{"CompareParts", func(x given) answer {
			n, code := impl.CompareParts(x.p, x.q)
			return answer{number: n, code: code}
		}},
	}
}

func givenTexts() []string {
	return []string{
		"", "a", "ok", "conflict", "a\x00b", "\x00", "\x01", "\xff",
		strings.Repeat("\x00", impl.MaxKey), strings.Repeat("a", impl.MaxKey+1),
		strings.Repeat("a", impl.MaxText), strings.Repeat("a", impl.MaxText+1),
	}
}

func givenBytes(t *testing.T) [][]byte {
	six := tupleKey(t, manyParts()...)
	return [][]byte{
		nil, {}, {0}, {1}, {2}, {3}, {0, 1}, {0, 255}, {0, 2}, {255},
		impl.IntKey(-7), impl.FloatKey(-7.5), impl.IntKey(math.MaxInt)[:7], append(impl.IntKey(7), 0),
		textKey(t, "a\x00b"), append(textKey(t, "ab"), "behind"...), textKey(t, strings.Repeat("\x00", impl.MaxKey)),
		plainTextKey(strings.Repeat("a", impl.MaxKey+1)),
		tupleKey(t, intPart(1)), tupleKey(t, floatPart(math.NaN())), tupleKey(t, textPart("abc"), textPart("abc"), textPart("d\x00e")),
		six, six[:len(six)-1], append(bytes.Clone(six), 1), append(bytes.Clone(six), six...),
		bytes.Repeat([]byte{3, 'a', 0, 1}, impl.MaxText/4), bytes.Repeat([]byte{'a'}, impl.MaxText), make([]byte, impl.MaxText), make([]byte, impl.MaxText+1),
	}
}

func givenParts() [][]impl.Part {
	list := [][]impl.Part{
		nil, {}, {intPart(1)}, {floatPart(negativeNought)}, {textPart("a\x00b")}, {textPart("a"), textPart("b"), intPart(2)},
		manyParts(), repeatPart(intPart(1), impl.MaxParts+1), repeatPart(intPart(1), impl.MaxList), repeatPart(intPart(1), impl.MaxList+1),
	}
	for _, p := range wrongParts() {
		list = append(list, []impl.Part{intPart(1), p})
	}
	return list
}

// allGiven go through each kind of argument, with the numbers and places around them.
func allGiven(t *testing.T) []given {
	var list []given
	for i, n := range append(risingInts(), -13, 3, 9, 12, 13) {
		floats := risingFloats()
		list = append(list, given{n: n, at: n, f: floats[i%len(floats)], g: floats[(i*7+3)%len(floats)]})
	}
	for i, f := range risingFloats() {
		floats := risingFloats()
		list = append(list, given{f: f, g: floats[len(floats)-1-i]})
	}
	for _, text := range givenTexts() {
		list = append(list, given{t: text})
	}
	for _, b := range givenBytes(t) {
		for _, at := range []int{math.MinInt, -1, 0, 1, 2, len(b) - 1, len(b), len(b) + 1, math.MaxInt} {
			list = append(list, given{b: b, at: at})
		}
	}
	parts := givenParts()
	for i, p := range parts {
		list = append(list, given{p: p, q: parts[len(parts)-1-i]}, given{p: p, q: p}, given{p: p}, given{q: p})
	}
	return list
}

// room is how many elements lie behind the end of a list that is handed in.
const room = 24

// memory is a list in memory of its own, with other elements behind its end.
func memory[E any](list []E, fill E, behind int) []E {
	if list == nil && behind == 0 {
		return nil
	}
	whole := make([]E, len(list)+behind)
	for i := range whole {
		whole[i] = fill
	}
	copy(whole, list)
	return whole[:len(list)]
}

func ownTexts(parts []impl.Part) []impl.Part {
	for i := range parts {
		parts[i].T = strings.Clone(parts[i].T)
	}
	return parts
}

// own is the same arguments in memory of their own.
func own(x given, behind int) given {
	x.t = strings.Clone(x.t)
	x.b = memory(x.b, 0xA5, behind)
	x.p = ownTexts(memory(x.p, textPart("behind"), behind))
	x.q = ownTexts(memory(x.q, textPart("behind"), behind))
	return x
}

// toldGiven tells the arguments, and what lies behind the ends of their lists.
func toldGiven(x given) string {
	sizes := fmt.Sprintln(len(x.t), len(x.b), cap(x.b), len(x.p), cap(x.p), len(x.q), cap(x.q), x.n, x.at, x.f, x.g)
	return sizes + x.t + string(x.b[:cap(x.b)]) + toldParts(x.p[:cap(x.p)]) + toldParts(x.q[:cap(x.q)])
}

func toldAnswer(a answer) string {
	numbers := fmt.Sprintln(a.code, a.number, a.place, a.yes, math.Float64bits(a.float), len(a.text), len(a.bytes), len(a.parts))
	return numbers + a.text + string(a.bytes) + toldParts(a.parts)
}

func spoilBytes(b []byte) {
	b = b[:cap(b)]
	for i := range b {
		b[i] ^= 0x5A
	}
}

func spoilParts(parts []impl.Part) {
	parts = parts[:cap(parts)]
	for i := range parts {
		parts[i] = impl.Part{Kind: -99, N: 99, F: -99, T: "spoilt"}
	}
}

// tryCall calls a function; a panic is a fault.
func tryCall(t *testing.T, f function, x given) (a answer) {
	t.Helper()
	defer func() {
		if p := recover(); p != nil {
			t.Errorf("%s(%q) panics: %v", f.name, shorten(toldGiven(x)), p)
		}
	}()
	return f.call(x)
}

func TestNoCallWritesIntoItsArguments(t *testing.T) {
	for _, x := range allGiven(t) {
		for _, f := range functions() {
			for _, behind := range []int{0, 1, room} {
				x := own(x, behind)
				before := toldGiven(x)
				a := tryCall(t, f, x)
				if toldGiven(x) != before {
					t.Errorf("%s(%q) changes an argument, or what lies behind it", f.name, shorten(before))
				}
				spoilBytes(a.bytes)
				spoilParts(a.parts)
				if toldGiven(x) != before {
					t.Errorf("%s(%q) gives out an argument's memory", f.name, shorten(before))
				}
			}
		}
	}
}

func TestAnswersDoNotHangOnArgumentsBehindTheCall(t *testing.T) {
	for _, x := range allGiven(t) {
		for _, f := range functions() {
			x := own(x, room)
			before := toldGiven(x)
			a := tryCall(t, f, x)
			told := toldAnswer(a)
			spoilBytes(x.b)
			spoilParts(x.p)
			spoilParts(x.q)
			if toldAnswer(a) != told {
				t.Errorf("the answer of %s(%q) shares memory with an argument", f.name, shorten(before))
			}
		}
	}
}

func TestAlikeArgumentsHaveAlikeAnswers(t *testing.T) {
	for _, x := range allGiven(t) {
		for _, f := range functions() {
			first := tryCall(t, f, own(x, 0))
			told := toldAnswer(first)
			second := tryCall(t, f, own(x, room))
			if toldAnswer(second) != told {
				t.Errorf("%s(%q) answers otherwise when called again", f.name, shorten(toldGiven(x)))
			}
			spoilBytes(second.bytes)
			spoilParts(second.parts)
			if toldAnswer(first) != told {
				t.Errorf("two answers of %s(%q) share memory", f.name, shorten(toldGiven(x)))
			}
			if toldAnswer(tryCall(t, f, x)) != told {
				t.Errorf("%s(%q) hands out memory that it keeps", f.name, shorten(toldGiven(x)))
			}
		}
	}
}

func TestAnswersDoNotHangOnEarlierCalls(t *testing.T) {
	var answers []answer
	var told []string
	list := allGiven(t)
	for _, x := range list {
		for _, f := range functions() {
			a := tryCall(t, f, x)
			answers = append(answers, a)
			told = append(told, toldAnswer(a))
		}
	}
	for i := len(told) - 1; i >= 0; i-- {
		f, x := functions()[i%len(functions())], list[i/len(functions())]
		if toldAnswer(tryCall(t, f, x)) != told[i] {
			t.Errorf("%s(%q) answers otherwise behind other calls", f.name, shorten(toldGiven(x)))
		}
		if toldAnswer(answers[i]) != told[i] {
			t.Errorf("the answer of %s(%q) is changed by a later call", f.name, shorten(toldGiven(x)))
		}
	}
}

func TestNilIsAnEmptyList(t *testing.T) {
	for _, f := range functions() {
		for _, at := range []int{-1, 0, 1} {
			none := given{at: at}
			empty := given{at: at, b: []byte{}, p: []impl.Part{}, q: []impl.Part{}}
			if toldAnswer(tryCall(t, f, none)) != toldAnswer(tryCall(t, f, empty)) {
				t.Errorf("%s tells nil from an empty list", f.name)
			}
		}
	}
}

func TestACodeMeansThatAllElseIsZero(t *testing.T) {
	for _, x := range allGiven(t) {
		for _, f := range functions() {
			a := tryCall(t, f, x)
			if a.code != impl.OK && toldAnswer(a) != toldAnswer(answer{code: a.code}) {
				t.Errorf("%s(%q) answers %q with its code", f.name, shorten(toldGiven(x)), shorten(toldAnswer(a)))
			}
		}
	}
}
