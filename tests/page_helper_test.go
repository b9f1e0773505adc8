package tests

import (
	"math"
	"slices"
	"strconv"
	"strings"
	"testing"

	"loop.example/g00163/impl"
)

func put(key, value string) impl.Delta {
	return impl.Delta{Kind: impl.DePut, Key: key, Value: value}
}

func drop(key string) impl.Delta {
	return impl.Delta{Kind: impl.DeDrop, Key: key}
}

func split(key string, to int) impl.Delta {
	return impl.Delta{Kind: impl.DeSplit, Key: key, To: to}
}

func chain(list ...impl.Delta) []impl.Delta {
	return list
}

// entriesOf are entries told as "key=value".
func entriesOf(list ...string) []impl.Entry {
	var all []impl.Entry
	for _, e := range list {
		key, value, _ := strings.Cut(e, "=")
		all = append(all, impl.Entry{Key: key, Value: value})
	}
	return all
}

func numbered(i int) string {
	return "k" + strconv.Itoa(100+i)
}

// manyEntries have the keys k100, k101 ..
func manyEntries(n int) []impl.Entry {
	var all []impl.Entry
	for i := range n {
		all = append(all, impl.Entry{Key: numbered(i), Value: strconv.Itoa(i)})
	}
	return all
}

// manyPuts have the keys behind those of as many entries.
func manyPuts(from, n int) []impl.Delta {
	var all []impl.Delta
	for i := range n {
		all = append(all, put(numbered(from+i), "put"))
	}
	return all
}

func samePage(a, b impl.Page) bool {
	return a.Low == b.Low && a.High == b.High && a.Right == b.Right && slices.Equal(a.Base, b.Base) && slices.Equal(a.Chain, b.Chain)
}

func wantPage(t *testing.T, what string, got, want impl.Page) {
	t.Helper()
	if !samePage(got, want) {
		t.Errorf("%s: %q, want %q", what, told([]any{got}), told([]any{want}))
	}
}

func wantFind(t *testing.T, what string, p impl.Page, key, value string, to, code int) {
	t.Helper()
	v, n, c := impl.Find(p, key)
	if v != value || n != to || c != code {
		t.Errorf("%s: Find of %q has %q, %d and code %d, want %q, %d and code %d", what, shorten(key), v, n, c, value, to, code)
	}
}

func extended(t *testing.T, p impl.Page, list ...impl.Delta) impl.Page {
	t.Helper()
	for i, d := range list {
		next, code := impl.Extend(p, d)
		if code != impl.OK {
			t.Fatalf("Extend by change %d (Kind %d of %q): code %d", i, d.Kind, d.Key, code)
		}
		p = next
	}
	return p
}

func wantNoExtend(t *testing.T, what string, p impl.Page, d impl.Delta, want int) {
	t.Helper()
	if q, code := impl.Extend(p, d); code != want || !samePage(q, impl.Page{}) {
		t.Errorf("%s: Extend has code %d, want %d", what, code, want)
	}
}

func together(t *testing.T, p impl.Page) impl.Page {
	t.Helper()
	q, code := impl.Consolidate(p)
	if code != impl.OK {
		t.Fatalf("Consolidate: code %d", code)
	}
	return q
}

func pageBytes(t *testing.T, p impl.Page) []byte {
	t.Helper()
	b, code := impl.PageBytes(p)
	if code != impl.OK {
		t.Fatalf("PageBytes: code %d", code)
	}
	return b
}

type namedPage struct {
	name string
	impl.Page
}

// middle is a page with both bounds and a chain of each Kind.
func middle() impl.Page {
	return impl.Page{
		Low: "b", High: "m", Right: 7,
		Base:  entriesOf("b=1", "d=2", "h=3"),
		Chain: chain(put("c", "4"), drop("d"), split("g", 9), put("f", "5")),
	}
}

// whole is a page without bounds, right whatever its entries are.
func whole(base []impl.Entry, chain ...impl.Delta) impl.Page {
	return impl.Page{Right: -1, Base: base, Chain: chain}
}

var (
	longKey    = strings.Repeat("m", impl.MaxEntry)
	longValue  = strings.Repeat("v", impl.MaxValue)
	tooLongKey = longKey + "m"
	tooLong    = longValue + "v"
)

func rightPages() []namedPage {
	below := strings.Repeat("m", impl.MaxEntry-1) + "l"
	return slices.Concat([]namedPage{
		{"nothing", whole(nil)},
		{"nothing, lists that are not nil", impl.Page{Right: -1, Base: []impl.Entry{}, Chain: []impl.Delta{}}},
		{"both bounds and a chain", middle()},
		{"a Low alone", impl.Page{Low: "a", Right: -1}},
		{"a High alone", impl.Page{High: "a", Right: 0}},
		{"a beginning below", impl.Page{Low: "a", High: "a\x00", Right: 0, Base: entriesOf("a=x")}},
		{"Right MaxId", impl.Page{High: "a", Right: impl.MaxId}},
		{"long bounds", impl.Page{Low: below, High: longKey, Right: 1, Base: []impl.Entry{{Key: below, Value: longValue}}}},
		{"bytes order, not runes", impl.Page{Low: "z", High: "\xff", Right: 2, Base: entriesOf("z=", "\x7f=", "\x80=", "\xc3\xa4=", "\xfe\xff=")}},
		{"keys of one byte and of MaxEntry", whole([]impl.Entry{{Key: "\x00"}, {Key: longKey, Value: longValue}})},
		{"a beginning ahead", whole(entriesOf("a=", "a\x00=", "aa=", "b="))},
		{"MaxBase entries", whole(manyEntries(impl.MaxBase))},
		{"MaxChain drops of what is not there", whole(nil, slices.Repeat(chain(drop("x")), impl.MaxChain)...)},
		{"MaxChain puts", whole(nil, manyPuts(0, impl.MaxChain)...)},
		{"MaxBase entries, each Kind", whole(manyEntries(impl.MaxBase), put(numbered(3), longValue), drop(numbered(4)), split(numbered(9), impl.MaxId))},
		{"MaxBase entries behind a put", whole(manyEntries(impl.MaxBase-1), put("z", ""))},
		{"MaxBase entries, a put of one", whole(manyEntries(impl.MaxBase), put(numbered(31), ""))},
		{"more in between, then a drop", whole(manyEntries(impl.MaxBase), put("z", ""), drop("z"))},
		{"more in between, then a drop of another", whole(manyEntries(impl.MaxBase), put("z", ""), drop(numbered(0)))},
		{"more in between, then a split", whole(manyEntries(impl.MaxBase), append(manyPuts(32, 11), split(numbered(32), 5))...)},
		{"as many more as there may be, then a split", whole(manyEntries(impl.MaxBase), append(manyPuts(32, 11), split("k1", 5))...)},
	}, rightChains())
}

func rightChains() []namedPage {
	base := entriesOf("b=1", "d=2", "h=3")
	in := func(list ...impl.Delta) impl.Page {
		return impl.Page{Low: "b", High: "m", Right: 7, Base: base, Chain: list}
	}
	return []namedPage{
		{"a put just at Low", in(put("b", "x"))},
		{"a drop just at Low", in(drop("b"))},
		{"a put just below High", in(put("l\xff\xff", "x"))},
		{"a drop just below High", in(drop("l\xff"))},
		{"a put without a value", in(put("b", ""))},
		{"a put of all sizes", in(put("c"+longKey[1:], longValue))},
		{"a put of what an earlier change put", in(put("c", "1"), put("c", "2"))},
		{"a put of what an earlier change dropped", in(drop("d"), put("d", "2"))},
		{"a drop of what an earlier change put", in(put("c", "1"), drop("c"))},
		{"a drop of what an earlier change dropped", in(drop("d"), drop("d"))},
		{"a drop of what is not there", in(drop("c"))},
		{"a split just above Low", in(split("b\x00", 0))},
		{"a split just below High", in(split("l\xff", impl.MaxId))},
		{"a split at an entry", in(split("d", 1))},
		{"a split behind all entries", in(split("k", 1))},
		{"a split behind a split", in(split("h", 1), split("d", 2))},
		{"a split behind a split, to the same page", in(split("h", 1), split("d", 1))},
		{"a split to the page that is to its right", in(split("h", 7))},
		{"splits all along", in(split("l", 1), split("k", 2), split("j", 3), split("i", 4), split("h", 5), split("c", 6), split("b\x00", 7))},
		{"a put just below a split", in(split("d", 1), put("c\xff", "x"))},
		{"a put ahead of a split that gives it away", in(put("k", "x"), split("g", 1))},
		{"a drop ahead of a split that gives it away", in(drop("h"), split("g", 1))},
		{"a put at a key ahead of the split there", in(put("g", "x"), split("g", 1))},
		{"a split without a High", impl.Page{Low: "b", Right: -1, Base: base, Chain: chain(split("z", 0))}},
		{"a split without a Low", impl.Page{High: "m", Right: 3, Base: base, Chain: chain(split("\x00", 0))}},
		{"a split of MaxEntry bytes", whole(base, split(longKey, 0))},
		{"a drop and a put without bounds", whole(nil, put("\x00", "x"), drop("\xff"))},
	}
}

// wrongPages each have one fault.
func wrongPages() []namedPage {
	list := slices.Concat(wrongBounds(), wrongBases(), wrongChains(), crowdedPages())
	for _, c := range wrongDeltas() {
		list = append(list, namedPage{"in a chain: " + c.name, impl.Page{Low: "b", High: "m", Right: 7, Chain: chain(c.Delta)}})
		list = append(list, namedPage{"in a chain, last: " + c.name, impl.Page{Low: "b", High: "m", Right: 7, Chain: chain(put("c", ""), c.Delta)}})
		list = append(list, namedPage{"in a chain, first: " + c.name, impl.Page{Low: "b", High: "m", Right: 7, Chain: chain(c.Delta, put("c", ""))}})
	}
	return list
}

func wrongBounds() []namedPage {
	list := []namedPage{
		{"zero", impl.Page{}},
		{"Low and High alike", impl.Page{Low: "m", High: "m", Right: 1}},
		{"Low above High", impl.Page{Low: "n", High: "m", Right: 1}},
		{"High a beginning of Low", impl.Page{Low: "mm", High: "m", Right: 1}},
		{"Low above High by its byte", impl.Page{Low: "\xc3\xa4", High: "z", Right: 1}},
		{"a Low that is too long", impl.Page{Low: tooLongKey, Right: -1}},
		{"a Low that is too long, below High", impl.Page{Low: tooLongKey, High: "z", Right: 1}},
		{"a High that is too long", impl.Page{High: tooLongKey, Right: 1}},
		{"a Low of far too many bytes", impl.Page{Low: strings.Repeat("a", impl.MaxText+1), Right: -1}},
		{"a High of far too many bytes", impl.Page{High: strings.Repeat("a", impl.MaxText+1), Right: 1}},
		{"Right -1 with a High", impl.Page{High: "m", Right: -1}},
		{"Right -1 with both", impl.Page{Low: "b", High: "m", Right: -1}},
	}
	for _, n := range []int{0, 1, impl.MaxId, impl.MaxId + 1, -2, math.MaxInt, math.MinInt} {
		list = append(list, namedPage{"Right " + strconv.Itoa(n) + " without a High", impl.Page{Low: "b", Right: n}})
	}
	for _, n := range []int{math.MinInt, -65536, -2, impl.MaxId + 1, 65535, 65536, 65536 + 7, math.MaxInt} {
		list = append(list, namedPage{"Right " + strconv.Itoa(n) + " with a High", impl.Page{Low: "b", High: "m", Right: n}})
	}
	return list
}

func wrongBases() []namedPage {
	in := func(list ...impl.Entry) impl.Page {
		return impl.Page{Low: "b", High: "m", Right: 7, Base: list}
	}
	return []namedPage{
		{"a key of none", whole([]impl.Entry{{Value: "x"}})},
		{"a key that is too long", whole([]impl.Entry{{Key: tooLongKey}})},
		{"a key of far too many bytes", whole([]impl.Entry{{Key: strings.Repeat("k", impl.MaxText+1)}})},
		{"a value that is too long", whole([]impl.Entry{{Key: "a", Value: tooLong}})},
		{"a value of 256 bytes", whole([]impl.Entry{{Key: "a", Value: strings.Repeat("v", 256)}})},
		{"a value of far too many bytes", whole([]impl.Entry{{Key: "a", Value: strings.Repeat("v", impl.MaxText+1)}})},
		{"a value that is too long, last", whole([]impl.Entry{{Key: "a"}, {Key: "b"}, {Key: "c", Value: tooLong}})},
		{"keys that fall", whole(entriesOf("b=", "a="))},
		{"keys that fall at last", whole(entriesOf("a=", "b=", "d=", "c="))},
		{"a key twice", whole(entriesOf("a=1", "b=2", "b=2"))},
		{"a beginning behind", whole(entriesOf("aa=", "a="))},
		{"a key below Low", in(entriesOf("a=", "c=")...)},
		{"a key just below Low", in(entriesOf("a\xff\xff=")...)},
		{"a key just at High", in(entriesOf("c=", "m=")...)},
		{"a key above High", in(entriesOf("c=", "m\x00=")...)},
		{"a key from High on that a split takes", impl.Page{Low: "b", High: "m", Right: 7, Base: entriesOf("c=", "n="), Chain: chain(split("d", 1))}},
		{"a key below Low that a drop would take", impl.Page{Low: "b", High: "m", Right: 7, Base: entriesOf("a="), Chain: chain(drop("c"))}},
		{"keys that fall, in a part that a split takes", whole(entriesOf("a=", "d=", "c="), split("b", 1))},
	}
}

func wrongChains() []namedPage {
	base := entriesOf("b=1", "d=2", "h=3")
	in := func(list ...impl.Delta) impl.Page {
		return impl.Page{Low: "b", High: "m", Right: 7, Base: base, Chain: list}
	}
	return []namedPage{
		{"a put of what a split gave away", in(split("g", 1), put("h", "x"))},
		{"a drop of what a split gave away", in(split("g", 1), drop("h"))},
		{"a put just at a split", in(split("g", 1), put("g", "x"))},
		{"a drop just at a split", in(split("g", 1), drop("g"))},
		{"a split at a split", in(split("g", 1), split("g", 2))},
		{"a split behind a split's bound", in(split("g", 1), split("h", 2))},
		{"a put of what the first of two splits gave away", in(split("g", 1), split("d", 2), put("h", "x"))},
		{"a put of what the second of two splits gave away", in(split("g", 1), split("d", 2), put("f", "x"))},
		{"a put of what an earlier change put and a split gave away", in(put("h", "x"), split("g", 1), put("h", "x"))},
		{"a split of a page without a High, then a put", impl.Page{Right: -1, Chain: chain(split("g", 1), put("g", ""))}},
		{"a wrong change that a later split takes", in(put("m", ""), split("c", 1))},
	}
}

// crowdedPages have too much of everything.
func crowdedPages() []namedPage {
	more := manyEntries(impl.MaxBase + 1)
	return []namedPage{
		{"a Base of one too many", whole(more)},
		{"a Base of one too many, then a drop", whole(more, drop(numbered(0)))},
		{"a Base of one too many, then a split", whole(more, split(numbered(5), 1))},
		{"a Base of 256", whole(manyEntries(256))},
		{"a Base of far too many", whole(manyEntries(impl.MaxList + 1))},
		{"a Chain of one too many", whole(nil, slices.Repeat(chain(drop("x")), impl.MaxChain+1)...)},
		{"a Chain of one too many puts", whole(nil, slices.Repeat(chain(put("x", "")), impl.MaxChain+1)...)},
		{"a Chain of 256", whole(nil, slices.Repeat(chain(drop("x")), 256)...)},
		{"a Chain of far too many", whole(nil, slices.Repeat(chain(drop("x")), impl.MaxList+1)...)},
		{"one entry too many behind a put", whole(manyEntries(impl.MaxBase), put("z", ""))},
		{"one entry too many behind MaxChain puts", whole(manyEntries(impl.MaxBase-impl.MaxChain+1), manyPuts(90, impl.MaxChain)...)},
		{"one entry too many behind a drop of none", whole(manyEntries(impl.MaxBase), put("z", ""), drop("y"))},
		{"one entry too many behind a split that takes none", whole(manyEntries(impl.MaxBase), put("z", ""), split("z\x00", 1))},
		{"more in between, one too many at last", whole(manyEntries(impl.MaxBase), put("z", ""), put("y", ""), drop(numbered(0)))},
	}
}

type namedDelta struct {
	name string
	impl.Delta
}

// wrongDeltas may stand nowhere in a page from b on, below m.
func wrongDeltas() []namedDelta {
	list := []namedDelta{
		{"zero", impl.Delta{}},
		{"a put of no key", put("", "x")},
		{"a drop of no key", drop("")},
		{"a split at no key", split("", 1)},
		{"a put of a key that is too long", put("c"+longKey, "")},
		{"a drop of a key that is too long", drop("c" + longKey)},
		{"a split at a key that is too long", split("c"+longKey, 1)},
		{"a put of a key of far too many bytes", put("c"+strings.Repeat("c", impl.MaxText), "")},
		{"a put of a value that is too long", put("c", tooLong)},
		{"a put of a value of 256 bytes", put("c", strings.Repeat("v", 256))},
		{"a put of a value of far too many bytes", put("c", strings.Repeat("v", impl.MaxText+1))},
		{"a put with a page", impl.Delta{Kind: impl.DePut, Key: "c", Value: "x", To: 1}},
		{"a put with a page below 0", impl.Delta{Kind: impl.DePut, Key: "c", Value: "x", To: -1}},
		{"a drop with a page", impl.Delta{Kind: impl.DeDrop, Key: "c", To: 1}},
		{"a drop with a page below 0", impl.Delta{Kind: impl.DeDrop, Key: "c", To: -1}},
		{"a drop with a value", impl.Delta{Kind: impl.DeDrop, Key: "c", Value: "x"}},
		{"a split with a value", impl.Delta{Kind: impl.DeSplit, Key: "c", Value: "x", To: 1}},
		{"a put below Low", put("a\xff", "x")},
		{"a drop below Low", drop("a\xff")},
		{"a split below Low", split("a\xff", 1)},
		{"a split just at Low", split("b", 1)},
		{"a put just at High", put("m", "x")},
		{"a drop just at High", drop("m")},
		{"a split just at High", split("m", 1)},
		{"a put above High", put("z", "x")},
		{"a drop above High", drop("z")},
		{"a split above High", split("z", 1)},
	}
	for _, kind := range []int{math.MinInt, -255, -1, 0, 4, 5, 257, 258, 259, math.MaxInt} {
		list = append(list, namedDelta{"Kind " + strconv.Itoa(kind), impl.Delta{Kind: kind, Key: "c"}})
	}
	for _, to := range []int{math.MinInt, -65536, -1, impl.MaxId + 1, 65535, 65536, 65536 + 7, math.MaxInt} {
		list = append(list, namedDelta{"a split to " + strconv.Itoa(to), split("c", to)})
	}
	return list
}
