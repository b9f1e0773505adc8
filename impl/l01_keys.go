package impl

import (
	"cmp"
	"math"
	"strings"
)

const (
	MaxParts = 6
	MaxKey   = 100

	PtInt   = 1
	PtFloat = 2
	PtText  = 3
)

const (
	eightSize = 8
	topBit    = uint64(1) << 63

	// A nought within a text is told from the nought that ends it by the byte
	// behind it; the end's byte is the lesser, so that a beginning comes ahead.
	textStop = 1
	textMore = 255
)

type Part struct {
	Kind, N int
	F       float64
	T       string
}

// IntKey gives the key of a whole number.
func IntKey(n int) []byte {
	e := eightOf(intRank(n))
	return e[:]
}

// KeyInt gives the whole number that a key is of.
func KeyInt(b []byte) (int, int) {
	e, code := onlyEight(b)
	if code != OK {
		return 0, code
	}
	return rankInt(rankOf(e)), OK
}

// FloatKey gives the key of a float; every bit of it counts.
func FloatKey(f float64) []byte {
	e := eightOf(floatRank(f))
	return e[:]
}

// KeyFloat gives the float that a key is of.
func KeyFloat(b []byte) (float64, int) {
	e, code := onlyEight(b)
	if code != OK {
		return 0, code
	}
	return rankFloat(rankOf(e)), OK
}

// CompareFloats orders floats as their keys are ordered.
func CompareFloats(a, b float64) int {
	return cmp.Compare(floatRank(a), floatRank(b))
}

// TextKey gives the key of a text.
func TextKey(t string) ([]byte, int) {
	if len(t) > MaxText {
		return nil, ErrLong
	}
	if len(t) > MaxKey {
		return nil, ErrSize
	}
	return appendText(nil, t), OK
}

// KeyText gives the text whose key begins at a place, and the place behind that key.
func KeyText(b []byte, at int) (string, int, int) {
	if len(b) > MaxText {
		return "", 0, ErrLong
	}
	if at < 0 || at > len(b) {
		return "", 0, ErrRange
	}
	text, next, ok := textAt(b, at)
	if !ok {
		return "", 0, ErrForm
	}
	return text, next, OK
}

// TupleKey gives the key of several parts.
func TupleKey(parts []Part) ([]byte, int) {
	if len(parts) > MaxList {
		return nil, ErrLong
	}
	if !partsOK(parts) {
		return nil, ErrBad
	}
	var key []byte
	for _, p := range parts {
		key = appendPart(key, p)
	}
	return key, OK
}

// ReadTuple gives the parts that a key is of.
func ReadTuple(b []byte) ([]Part, int) {
	if len(b) > MaxText {
		return nil, ErrLong
	}
	var parts []Part
	for at := 0; at < len(b); {
		p, next, ok := partAt(b, at)
		if !ok {
			return nil, ErrForm
		}
		// Only behind the part: one too many that is no part is ErrForm.
		if len(parts) == MaxParts {
			return nil, ErrMany
		}
		parts = append(parts, p)
		at = next
	}
	return parts, OK
}

// CompareParts orders lists of parts as their keys are ordered.
func CompareParts(a, b []Part) (int, int) {
	if len(a) > MaxList || len(b) > MaxList {
		return 0, ErrLong
	}
	if !partsOK(a) || !partsOK(b) {
		return 0, ErrBad
	}
	for i := range min(len(a), len(b)) {
		if c := comparePart(a[i], b[i]); c != 0 {
			return c, OK
		}
	}
	return cmp.Compare(len(a), len(b)), OK
}

// intRank turns the sign, so that ranks rise as whole numbers do.
func intRank(n int) uint64 {
	return uint64(n) ^ topBit
}

func rankInt(rank uint64) int {
	return int(rank ^ topBit)
}

// floatRank asks the sign by its bit: comparisons do not tell the noughts
// apart, and NaN answers none of them.
func floatRank(f float64) uint64 {
	bits := math.Float64bits(f)
	if bits&topBit != 0 {
		return ^bits
	}
	return bits | topBit
}

func rankFloat(rank uint64) float64 {
	if rank&topBit != 0 {
		return math.Float64frombits(rank &^ topBit)
	}
	return math.Float64frombits(^rank)
}

func eightOf(rank uint64) [eightSize]byte {
	var e [eightSize]byte
	for i := len(e) - 1; i >= 0; i-- {
		e[i] = byte(rank)
		rank >>= 8
	}
	return e
}

func rankOf(e [eightSize]byte) uint64 {
	rank := uint64(0)
	for _, c := range e {
		rank = rank<<8 | uint64(c)
	}
	return rank
}

func onlyEight(b []byte) ([eightSize]byte, int) {
	if len(b) > MaxText {
		return [eightSize]byte{}, ErrLong
	}
	if len(b) != eightSize {
		return [eightSize]byte{}, ErrForm
	}
	e, _ := eightAt(b, 0)
	return e, OK
}

// eightAt reads the eight bytes at a place from 0 to the length of b.
func eightAt(b []byte, at int) ([eightSize]byte, bool) {
	var e [eightSize]byte
	if len(b)-at < eightSize {
		return e, false
	}
	copy(e[:], b[at:])
	return e, true
}

func appendText(key []byte, t string) []byte {
	for i := range len(t) {
		key = append(key, t[i])
		if t[i] == 0 {
			key = append(key, textMore)
		}
	}
	return append(key, 0, textStop)
}

// textAt reads the text whose key begins at a place from 0 to the length of b.
func textAt(b []byte, at int) (string, int, bool) {
	var text []byte
	for at < len(b) {
		c := b[at]
		at++
		if c == 0 {
			if at == len(b) {
				return "", 0, false
			}
			mark := b[at]
			at++
			if mark == textStop {
				return string(text), at, true
			}
			if mark != textMore {
				return "", 0, false
			}
		}
		if len(text) == MaxKey {
			return "", 0, false
		}
		text = append(text, c)
	}
	return "", 0, false
}

func partsOK(parts []Part) bool {
	if len(parts) > MaxParts {
		return false
	}
	for _, p := range parts {
		if !partOK(p) {
			return false
		}
	}
	return true
}

// partOK asks F by its bits: a nought with its sign set is something that a
// part without a float does not have.
func partOK(p Part) bool {
	noInt := p.N == 0
	noFloat := math.Float64bits(p.F) == 0
	noText := p.T == ""
	switch p.Kind {
	case PtInt:
		return noFloat && noText
	case PtFloat:
		return noInt && noText
	case PtText:
		return noInt && noFloat && len(p.T) <= MaxKey
	}
	return false
}

// appendPart appends a right part's Kind and its key.
func appendPart(key []byte, p Part) []byte {
	key = append(key, byte(p.Kind))
	switch p.Kind {
	case PtInt:
		e := eightOf(intRank(p.N))
		return append(key, e[:]...)
	case PtFloat:
		e := eightOf(floatRank(p.F))
		return append(key, e[:]...)
	}
	return appendText(key, p.T)
}

// partAt reads the part that begins at a place from 0 on, before the end of b.
func partAt(b []byte, at int) (Part, int, bool) {
	kind := int(b[at])
	at++
	switch kind {
	case PtInt:
		e, ok := eightAt(b, at)
		if !ok {
			return Part{}, 0, false
		}
		return Part{Kind: kind, N: rankInt(rankOf(e))}, at + eightSize, true
	case PtFloat:
		e, ok := eightAt(b, at)
		if !ok {
			return Part{}, 0, false
		}
		return Part{Kind: kind, F: rankFloat(rankOf(e))}, at + eightSize, true
	case PtText:
		text, next, ok := textAt(b, at)
		if !ok {
			return Part{}, 0, false
		}
		return Part{Kind: kind, T: text}, next, true
	}
	return Part{}, 0, false
}

// comparePart orders two right parts; what they do not have is alike.
func comparePart(a, b Part) int {
	if a.Kind != b.Kind {
		return cmp.Compare(a.Kind, b.Kind)
	}
	switch a.Kind {
	case PtInt:
		return cmp.Compare(a.N, b.N)
	case PtFloat:
		return CompareFloats(a.F, b.F)
	}
	return strings.Compare(a.T, b.T)
}
