package tests

import (
	"slices"
	"strconv"
	"strings"
	"testing"

	"loop.example/g00163/impl"
)

func TestPageConstants(t *testing.T) {
	if impl.MaxEntry != 40 || impl.MaxValue != 100 || impl.MaxChain != 12 || impl.MaxBase != 32 {
		t.Error("limits", impl.MaxEntry, impl.MaxValue, impl.MaxChain, impl.MaxBase)
	}
	if impl.DePut != 1 || impl.DeDrop != 2 || impl.DeSplit != 3 {
		t.Error("kinds", impl.DePut, impl.DeDrop, impl.DeSplit)
	}
}

func TestRightPages(t *testing.T) {
	for _, c := range rightPages() {
		if !impl.PageOK(c.Page) {
			t.Errorf("%s: not right", c.name)
		}
		if !plainPageOK(c.Page) {
			t.Errorf("%s: not right in the tests themselves", c.name)
		}
	}
}

// Each call says ErrBad of a page that is not right, whatever else is wrong.
func TestWrongPages(t *testing.T) {
	for _, c := range wrongPages() {
		if impl.PageOK(c.Page) {
			t.Errorf("%s: right", c.name)
		}
		if plainPageOK(c.Page) {
			t.Errorf("%s: right in the tests themselves", c.name)
		}
		if high, right, code := impl.Bounds(c.Page); high != "" || right != 0 || code != impl.ErrBad {
			t.Errorf("%s: Bounds has %q, %d, code %d", c.name, high, right, code)
		}
		for _, key := range []string{"c", "", "a", "z", longKey, tooLongKey, strings.Repeat("k", impl.MaxText)} {
			wantFind(t, c.name, c.Page, key, "", 0, impl.ErrBad)
		}
		wantFind(t, c.name, c.Page, strings.Repeat("k", impl.MaxText+1), "", 0, impl.ErrLong)
		for _, d := range chain(put("c", "x"), drop("c"), split("c", 1), put("a", ""), put("z", ""), impl.Delta{}, impl.Delta{Kind: 4, Key: "c"}, put("c", strings.Repeat("v", impl.MaxText+1))) {
			wantNoExtend(t, c.name, c.Page, d, impl.ErrBad)
		}
		if q, code := impl.Consolidate(c.Page); code != impl.ErrBad || !samePage(q, impl.Page{}) {
			t.Errorf("%s: Consolidate has code %d", c.name, code)
		}
		if b, code := impl.PageBytes(c.Page); code != impl.ErrBad || len(b) != 0 {
			t.Errorf("%s: PageBytes has %d bytes, code %d", c.name, len(b), code)
		}
	}
}

func TestBoundsBehindChanges(t *testing.T) {
	in := func(list ...impl.Delta) impl.Page {
		return impl.Page{Low: "b", High: "m", Right: 7, Chain: list}
	}
	for _, c := range []struct {
		name  string
		p     impl.Page
		high  string
		right int
	}{
		{"nothing", whole(nil), "", -1},
		{"a Low alone", impl.Page{Low: "b", Right: -1}, "", -1},
		{"puts and drops without a bound", whole(nil, put("z", ""), drop("y")), "", -1},
		{"both", in(), "m", 7},
		{"puts and drops", in(put("c", "x"), drop("l")), "m", 7},
		{"a split", in(split("g", 9)), "g", 9},
		{"a split to page 0", in(split("g", 0)), "g", 0},
		{"a split to the last page", in(split("g", impl.MaxId)), "g", impl.MaxId},
		{"a split, then changes", in(split("g", 9), put("f", ""), drop("c")), "g", 9},
		{"a split behind a split", in(split("g", 9), split("f\xff", 8)), "f\xff", 8},
		{"three splits", in(split("g", 9), put("d", ""), split("e", 8), split("b\x00", 3)), "b\x00", 3},
		{"a split without a bound", whole(nil, split("g", 9)), "g", 9},
		{"a High of MaxEntry", impl.Page{High: longKey, Right: impl.MaxId}, longKey, impl.MaxId},
		{"a split at MaxEntry bytes", whole(nil, split(longKey, 1)), longKey, 1},
	} {
		if high, right, code := impl.Bounds(c.p); high != c.high || right != c.right || code != impl.OK {
			t.Errorf("%s: %q, %d, code %d, want %q, %d", c.name, high, right, code, c.high, c.right)
		}
	}
}

func TestFindInAPage(t *testing.T) {
	base := entriesOf("b=1", "d=2", "h=3")
	in := func(list ...impl.Delta) impl.Page {
		return impl.Page{Low: "b", High: "m", Right: 7, Base: base, Chain: list}
	}
	for _, c := range []struct {
		name, key string
		p         impl.Page
		want      string
		to, code  int
	}{
		{"in Base, the first", "b", in(), "1", 0, impl.OK},
		{"in Base", "d", in(), "2", 0, impl.OK},
		{"in Base, the last", "h", in(), "3", 0, impl.OK},
		{"between", "c", in(), "", 0, impl.ErrNone},
		{"behind the last", "l", in(), "", 0, impl.ErrNone},
		{"a beginning", "h\x00", in(), "", 0, impl.ErrNone},
		{"just at Low, without a value", "b", in(drop("b")), "", 0, impl.ErrNone},
		{"just below Low", "a\xff\xff", in(), "", 0, impl.ErrRange},
		{"below Low", "\x00", in(), "", 0, impl.ErrRange},
		{"just at High", "m", in(), "", 7, impl.ErrGone},
		{"above High", "zz", in(), "", 7, impl.ErrGone},
		{"of MaxEntry bytes above High", longKey, in(), "", 7, impl.ErrGone},
		{"put", "c", in(put("c", "x")), "x", 0, impl.OK},
		{"put over Base", "d", in(put("d", "x")), "x", 0, impl.OK},
		{"put without a value", "d", in(put("d", "")), "", 0, impl.OK},
		{"put twice", "c", in(put("c", "x"), put("c", "y")), "y", 0, impl.OK},
		{"put twice, others between", "c", in(put("c", "x"), put("d", "z"), drop("b"), put("c", "y")), "y", 0, impl.OK},
		{"dropped", "d", in(drop("d")), "", 0, impl.ErrNone},
		{"dropped, never there", "c", in(drop("c")), "", 0, impl.ErrNone},
		{"dropped, put again", "d", in(drop("d"), put("d", "x")), "x", 0, impl.OK},
		{"put, dropped", "c", in(put("c", "x"), drop("c")), "", 0, impl.ErrNone},
		{"put, dropped, put", "c", in(put("c", "x"), drop("c"), put("c", "y")), "y", 0, impl.OK},
		{"put over Base, dropped", "d", in(put("d", "x"), drop("d")), "", 0, impl.ErrNone},
		{"just at a split", "g", in(split("g", 9)), "", 9, impl.ErrGone},
		{"just below a split", "f\xff", in(split("g", 9)), "", 0, impl.ErrNone},
		{"given away by a split", "h", in(split("g", 9)), "", 9, impl.ErrGone},
		{"given away by a split at it", "h", in(split("h", 9)), "", 9, impl.ErrGone},
		{"above High behind a split", "n", in(split("g", 9)), "", 9, impl.ErrGone},
		{"kept by a split", "d", in(split("g", 9)), "2", 0, impl.OK},
		{"put and given away", "k", in(put("k", "x"), split("g", 9)), "", 9, impl.ErrGone},
		{"given away by the first of two splits", "h", in(split("g", 9), split("d", 8)), "", 8, impl.ErrGone},
		{"given away by the second of two splits", "d", in(split("g", 9), split("d", 8)), "", 8, impl.ErrGone},
		{"given away to page 0", "d", in(split("c", 0)), "", 0, impl.ErrGone},
		{"below Low behind a split", "a", in(split("g", 9)), "", 0, impl.ErrRange},
		{"put behind a split", "f", in(split("g", 9), put("f", "x")), "x", 0, impl.OK},
		{"not there, without bounds", "\xff", whole(nil), "", 0, impl.ErrNone},
		{"far above, without bounds", "\xff", whole(entriesOf("\xff=x")), "x", 0, impl.OK},
		{"of MaxEntry bytes", longKey, whole(entriesOf(longKey + "=" + longValue)), longValue, 0, impl.OK},
		{"of one more byte", tooLongKey, whole(entriesOf(longKey + "=x")), "", 0, impl.ErrBad},
		{"of one more byte, below Low", "a" + longKey, in(), "", 0, impl.ErrBad},
		{"of one more byte, above High", "z" + longKey, in(), "", 0, impl.ErrBad},
		{"none", "", in(), "", 0, impl.ErrBad},
		{"none, without bounds", "", whole(nil), "", 0, impl.ErrBad},
		{"of MaxText bytes", strings.Repeat("c", impl.MaxText), in(), "", 0, impl.ErrBad},
		{"of more than MaxText bytes", strings.Repeat("c", impl.MaxText+1), in(), "", 0, impl.ErrLong},
		{"of more than MaxText bytes, in a wrong page", strings.Repeat("c", impl.MaxText+1), impl.Page{}, "", 0, impl.ErrLong},
	} {
		wantFind(t, c.name, c.p, c.key, c.want, c.to, c.code)
	}
}

// Every entry of a full page is found, and nothing between two of them.
func TestFindInPagesOfAllSizes(t *testing.T) {
	for n := range impl.MaxBase + 1 {
		p := whole(manyEntries(n))
		for i := range impl.MaxBase + 2 {
			what := "key " + strconv.Itoa(i) + " of " + strconv.Itoa(n)
			if i < n {
				wantFind(t, what, p, numbered(i), strconv.Itoa(i), 0, impl.OK)
			} else {
				wantFind(t, what, p, numbered(i), "", 0, impl.ErrNone)
			}
			wantFind(t, what+", behind it", p, numbered(i)+"\x00", "", 0, impl.ErrNone)
		}
		wantFind(t, "ahead of all", p, "k", "", 0, impl.ErrNone)
	}
}

func TestExtendByRightChanges(t *testing.T) {
	start := impl.Page{Low: "b", High: "m", Right: 7, Base: entriesOf("b=1", "d=2", "h=3")}
	for _, c := range rightChains() {
		if c.Low != start.Low || c.High != start.High {
			continue
		}
		p := start
		for i, d := range c.Chain {
			p = extended(t, p, d)
			want := c.Page
			want.Chain = c.Chain[:i+1]
			wantPage(t, c.name, p, want)
		}
	}
}

func TestExtendByWrongChanges(t *testing.T) {
	full := impl.Page{Low: "b", High: "m", Right: 7, Chain: slices.Repeat(chain(drop("c")), impl.MaxChain)}
	crowded := impl.Page{Low: "b", High: "m", Right: 7, Base: manyEntries(impl.MaxBase)}
	both := crowded
	both.Chain = full.Chain
	for _, c := range wrongDeltas() {
		wantNoExtend(t, c.name, impl.Page{Low: "b", High: "m", Right: 7}, c.Delta, impl.ErrRange)
		wantNoExtend(t, c.name+", behind another split", impl.Page{Low: "b", High: "z", Right: 7, Chain: chain(split("m", 1))}, c.Delta, impl.ErrRange)
		wantNoExtend(t, c.name+", behind a full Chain", full, c.Delta, impl.ErrRange)
		wantNoExtend(t, c.name+", on MaxBase entries", crowded, c.Delta, impl.ErrRange)
		wantNoExtend(t, c.name+", on both", both, c.Delta, impl.ErrRange)
	}
	base := entriesOf("b=1", "d=2", "h=3")
	for _, c := range wrongChains() {
		// The last change is the wrong one there, but where a split comes behind it.
		last := len(c.Chain) - 1
		p := c.Page
		p.Chain = c.Chain[:last]
		if impl.PageOK(p) {
			wantNoExtend(t, c.name, p, c.Chain[last], impl.ErrRange)
		} else {
			wantNoExtend(t, c.name, p, c.Chain[last], impl.ErrBad)
		}
	}
	wantNoExtend(t, "a split at Low, which is empty", whole(base), split("", 1), impl.ErrRange)
}

func TestExtendUpToTheLimits(t *testing.T) {
	nearly := whole(manyEntries(impl.MaxBase-1), slices.Repeat(chain(drop("x")), impl.MaxChain-1)...)
	crowded := whole(manyEntries(impl.MaxBase))
	full := whole(manyEntries(3), slices.Repeat(chain(drop("x")), impl.MaxChain)...)
	both := whole(manyEntries(impl.MaxBase), slices.Repeat(chain(drop("x")), impl.MaxChain)...)
	for _, c := range []struct {
		name string
		p    impl.Page
		d    impl.Delta
		want int
	}{
		{"the last of both", nearly, put("z", "x"), impl.OK},
		{"a full Chain, a put", full, put("z", "x"), impl.ErrFull},
		{"a full Chain, a put over another", full, put(numbered(1), "x"), impl.ErrFull},
		{"a full Chain, a drop", full, drop("z"), impl.ErrFull},
		{"a full Chain, a split", full, split("z", 1), impl.ErrFull},
		{"MaxBase entries, a put", crowded, put("z", "x"), impl.ErrMany},
		{"MaxBase entries, a put ahead of all", crowded, put("a", "x"), impl.ErrMany},
		{"MaxBase entries, a put over another", crowded, put(numbered(31), "x"), impl.OK},
		{"MaxBase entries, a drop", crowded, drop(numbered(31)), impl.OK},
		{"MaxBase entries, a drop of none", crowded, drop("z"), impl.OK},
		{"MaxBase entries, a split", crowded, split("k1", 1), impl.OK},
		{"MaxBase entries, a split that takes none", crowded, split("z", 1), impl.OK},
		{"both, a put", both, put("z", "x"), impl.ErrFull},
		{"both, a put over another", both, put(numbered(31), "x"), impl.ErrFull},
		{"both, a split", both, split("k1", 1), impl.ErrFull},
		{"both, another Kind", both, impl.Delta{Kind: 4, Key: "z"}, impl.ErrRange},
		{"room behind a drop", whole(manyEntries(impl.MaxBase), drop(numbered(5))), put("z", "x"), impl.OK},
		{"room behind a split", whole(manyEntries(impl.MaxBase), split(numbered(31), 1)), put("a", "x"), impl.OK},
		{"no room behind a drop of none", whole(manyEntries(impl.MaxBase), drop("z")), put("a", "x"), impl.ErrMany},
		{"no room behind a put", whole(manyEntries(impl.MaxBase-1), put("z", "")), put("y", "x"), impl.ErrMany},
	} {
		if c.want != impl.OK {
			wantNoExtend(t, c.name, c.p, c.d, c.want)
			continue
		}
		want := c.p
		want.Chain = append(slices.Clone(c.p.Chain), c.d)
		wantPage(t, c.name, extended(t, c.p, c.d), want)
	}
}

func TestConsolidatedPages(t *testing.T) {
	in := func(list ...impl.Delta) impl.Page {
		return impl.Page{Low: "b", High: "m", Right: 7, Base: entriesOf("b=1", "d=2", "h=3"), Chain: list}
	}
	out := func(high string, right int, list ...string) impl.Page {
		return impl.Page{Low: "b", High: high, Right: right, Base: entriesOf(list...)}
	}
	for _, c := range []struct {
		name    string
		p, want impl.Page
	}{
		{"nothing", whole(nil), whole(nil)},
		{"no changes", in(), out("m", 7, "b=1", "d=2", "h=3")},
		{"each Kind", middle(), impl.Page{Low: "b", High: "g", Right: 9, Base: entriesOf("b=1", "c=4", "f=5")}},
		{"a put between", in(put("c", "x")), out("m", 7, "b=1", "c=x", "d=2", "h=3")},
		{"a put behind all", in(put("l", "x")), out("m", 7, "b=1", "d=2", "h=3", "l=x")},
		{"a put ahead of all", in(drop("b"), put("b\x00", "x")), out("m", 7, "b\x00=x", "d=2", "h=3")},
		{"a put over another", in(put("d", "x")), out("m", 7, "b=1", "d=x", "h=3")},
		{"a put over another, without a value", in(put("d", "")), out("m", 7, "b=1", "d=", "h=3")},
		{"puts of one key", in(put("c", "x"), put("c", "y"), put("c", "z")), out("m", 7, "b=1", "c=z", "d=2", "h=3")},
		{"puts that fall", in(put("l", "1"), put("k", "2"), put("j", "3")), out("m", 7, "b=1", "d=2", "h=3", "j=3", "k=2", "l=1")},
		{"a drop of the first", in(drop("b")), out("m", 7, "d=2", "h=3")},
		{"a drop of the last", in(drop("h")), out("m", 7, "b=1", "d=2")},
		{"a drop of none", in(drop("c")), out("m", 7, "b=1", "d=2", "h=3")},
		{"drops of all", in(drop("b"), drop("h"), drop("d")), out("m", 7)},
		{"a drop, a put", in(drop("d"), put("d", "x")), out("m", 7, "b=1", "d=x", "h=3")},
		{"a put, a drop", in(put("c", "x"), drop("c")), out("m", 7, "b=1", "d=2", "h=3")},
		{"a split between", in(split("e", 9)), out("e", 9, "b=1", "d=2")},
		{"a split at an entry", in(split("d", 9)), out("d", 9, "b=1")},
		{"a split behind all", in(split("i", 9)), out("i", 9, "b=1", "d=2", "h=3")},
		{"a split that leaves nothing", in(drop("b"), split("c", 9)), out("c", 9)},
		{"a split behind a split", in(split("h", 9), split("d", 0)), out("d", 0, "b=1")},
		{"a put that a split takes", in(put("k", "x"), split("h", 9)), out("h", 9, "b=1", "d=2")},
		{"a put behind a split", in(split("d", 9), put("c", "x")), out("d", 9, "b=1", "c=x")},
		{"a split of a page without bounds", whole(entriesOf("a=1", "b=2"), split("b", 3)), impl.Page{High: "b", Right: 3, Base: entriesOf("a=1")}},
		{"MaxBase entries", whole(manyEntries(impl.MaxBase)), whole(manyEntries(impl.MaxBase))},
		{"MaxBase entries by puts", whole(manyEntries(20), manyPuts(20, 12)...), whole(append(manyEntries(20), putEntries(20, 12)...))},
		{"more in between", whole(manyEntries(impl.MaxBase), put("z", "x"), drop(numbered(0))), whole(append(manyEntries(impl.MaxBase)[1:], impl.Entry{Key: "z", Value: "x"}))},
	} {
		got := together(t, c.p)
		wantPage(t, c.name, got, c.want)
		wantPage(t, c.name+", put together again", together(t, got), got)
	}
}

func putEntries(from, n int) []impl.Entry {
	var all []impl.Entry
	for _, d := range manyPuts(from, n) {
		all = append(all, impl.Entry{Key: d.Key, Value: d.Value})
	}
	return all
}

// A page that was put together takes as many changes again.
func TestExtendBehindConsolidate(t *testing.T) {
	p := whole(nil)
	for i := range impl.MaxBase {
		d := put(numbered((i*7)%impl.MaxBase), strconv.Itoa(i))
		if len(p.Chain) == impl.MaxChain {
			wantNoExtend(t, "a full Chain", p, d, impl.ErrFull)
			p = together(t, p)
		}
		p = extended(t, p, d)
	}
	for i := range impl.MaxBase {
		wantFind(t, "behind all puts", p, numbered((i*7)%impl.MaxBase), strconv.Itoa(i), 0, impl.OK)
	}
	wantNoExtend(t, "MaxBase entries", p, put("z", ""), impl.ErrMany)
}
