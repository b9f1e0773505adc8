package tests

import (
	"math"
	"slices"
	"strconv"
	"strings"
	"testing"

	"loop.example/g00163/impl"
)

func treePut(key, value string) impl.TreeAct {
	return impl.TreeAct{Kind: impl.TrPut, Key: key, Value: value}
}

func treeDrop(key string) impl.TreeAct {
	return impl.TreeAct{Kind: impl.TrDrop, Key: key}
}

func treeAct(kind, id int) impl.TreeAct {
	return impl.TreeAct{Kind: kind, Id: id}
}

// pageKinds are the Kinds of the steps at a page of a number.
var pageKinds = []int{impl.TrConsolidate, impl.TrSplit, impl.TrPost, impl.TrMerge}

func sameTree(a, b impl.Tree) bool {
	return slices.EqualFunc(a.Pages, b.Pages, samePage) && slices.Equal(a.Gone, b.Gone) && slices.Equal(a.Index, b.Index)
}

func wantTree(t *testing.T, what string, got, want impl.Tree) {
	t.Helper()
	if !sameTree(got, want) {
		t.Errorf("%s: %q, want %q", what, told([]any{got}), told([]any{want}))
	}
}

func wantGet(t *testing.T, what string, tree impl.Tree, key, value string, hops, code int) {
	t.Helper()
	v, n, c := impl.TreeGet(tree, key)
	if v != value || n != hops || c != code {
		t.Errorf("%s: TreeGet of %q has %q, %d and code %d, want %q, %d and code %d", what, shorten(key), v, n, c, value, hops, code)
	}
}

func wantTreeScan(t *testing.T, what string, tree impl.Tree, from, to string, want []impl.Entry) {
	t.Helper()
	got, code := impl.TreeScan(tree, from, to)
	if code != impl.OK || !slices.Equal(got, want) {
		t.Errorf("%s: TreeScan from %q to %q has %v and code %d, want %v", what, shorten(from), shorten(to), got, code, want)
	}
}

// wantStep gives the tree behind a step that tells a number.
func wantStep(t *testing.T, what string, tree impl.Tree, a impl.TreeAct, told int) impl.Tree {
	t.Helper()
	next, n, code := impl.TreeStep(tree, a)
	if n != told || code != impl.OK {
		t.Fatalf("%s: a step tells %d with code %d, want %d", what, n, code, told)
	}
	if !impl.TreeOK(next) {
		t.Errorf("%s: the tree is not right behind a step", what)
	}
	return next
}

func wantNoStep(t *testing.T, what string, tree impl.Tree, a impl.TreeAct, code int) {
	t.Helper()
	next, n, c := impl.TreeStep(tree, a)
	if c != code || n != 0 || !sameTree(next, impl.Tree{}) {
		t.Errorf("%s: a step of Kind %d at %d tells %d with code %d and %d pages, want code %d", what, a.Kind, a.Id, n, c, len(next.Pages), code)
	}
}

// stepped is a tree behind steps that have no code.
func stepped(t *testing.T, tree impl.Tree, acts ...impl.TreeAct) impl.Tree {
	t.Helper()
	for i, a := range acts {
		next, _, code := impl.TreeStep(tree, a)
		if code != impl.OK {
			t.Fatalf("step %d (Kind %d of %q or page %d): code %d", i, a.Kind, a.Key, a.Id, code)
		}
		tree = next
	}
	return tree
}

// lone is a tree of one page.
func lone(p impl.Page) impl.Tree {
	return impl.Tree{Pages: []impl.Page{p}, Gone: []bool{false}, Index: []impl.Ref{{}}}
}

// fourPages has a page that is not posted yet, one that was split by a change,
// and one that is Gone.
func fourPages() impl.Tree {
	return impl.Tree{
		Pages: []impl.Page{
			{High: "d", Right: 1, Base: entriesOf("a=1", "b=2"), Chain: chain(put("c", "3"))},
			{Low: "d", Right: -1, Base: entriesOf("d=4", "f=5", "m=6", "n=7"), Chain: chain(split("m", 2), drop("f"))},
			{Low: "m", Right: -1, Base: entriesOf("m=6", "n=7", "z=8")},
			{Right: -1},
		},
		Gone:  []bool{false, false, false, true},
		Index: []impl.Ref{{Low: "", Id: 0}, {Low: "m", Id: 2}},
	}
}

// lineOfPages are n pages with as many entries each, page i from k100 + i on,
// all in the Index or page 0 alone.
func lineOfPages(n, entries int, posted bool) impl.Tree {
	tree := impl.Tree{Index: []impl.Ref{{}}}
	for i := range n {
		p := impl.Page{Low: numbered(i), High: numbered(i + 1), Right: i + 1}
		if i == 0 {
			p.Low = ""
		} else if posted {
			tree.Index = append(tree.Index, impl.Ref{Low: p.Low, Id: i})
		}
		if i == n-1 {
			p.High, p.Right = "", -1
		}
		for k := range entries {
			p.Base = append(p.Base, impl.Entry{Key: numbered(i) + strconv.Itoa(10+k), Value: strconv.Itoa(k)})
		}
		tree.Pages = append(tree.Pages, p)
		tree.Gone = append(tree.Gone, false)
	}
	return tree
}

type namedTree struct {
	name string
	impl.Tree
}

func rightTrees() []namedTree {
	below := strings.Repeat("m", impl.MaxEntry-1) + "l"
	goneAll := lineOfPages(1, 2, false)
	for range impl.MaxPages - 1 {
		goneAll.Pages = append(goneAll.Pages, impl.Page{Right: -1})
		goneAll.Gone = append(goneAll.Gone, true)
	}
	turned := impl.Tree{
		Pages: []impl.Page{{High: "b", Right: 3}, {Low: "y", Right: -1}, {Low: "k", High: "y", Right: 1}, {Low: "b", High: "k", Right: 2}},
		Gone:  make([]bool, 4),
		Index: []impl.Ref{{Low: "", Id: 0}, {Low: "b", Id: 3}, {Low: "y", Id: 1}},
	}
	return []namedTree{
		{"a new one", impl.NewTree()},
		{"a page of MaxBase entries", lone(whole(manyEntries(impl.MaxBase)))},
		{"a page with a Chain of MaxChain", lone(whole(manyEntries(3), manyPuts(20, impl.MaxChain)...))},
		{"both", lone(whole(manyEntries(impl.MaxBase), slices.Repeat(chain(drop("x")), impl.MaxChain)...))},
		{"four pages", fourPages()},
		{"pages whose numbers do not rise, without entries", turned},
		{"two pages, not posted", lineOfPages(2, 3, false)},
		{"two pages, posted", lineOfPages(2, 3, true)},
		{"MaxPages pages, not posted", lineOfPages(impl.MaxPages, 1, false)},
		{"MaxPages pages, posted", lineOfPages(impl.MaxPages, 2, true)},
		{"as much as there may be", lineOfPages(impl.MaxPages, impl.MaxBase, true)},
		{"all Gone but for page 0", goneAll},
		{"bounds of MaxEntry bytes", impl.Tree{
			Pages: []impl.Page{{High: below, Right: 2}, {Low: longKey, Right: -1, Base: []impl.Entry{{Key: longKey, Value: longValue}}}, {Low: below, Right: -1, Chain: chain(split(longKey, 1))}},
			Gone:  make([]bool, 3),
			Index: []impl.Ref{{Low: "", Id: 0}, {Low: longKey, Id: 1}},
		}},
	}
}

// wrongTrees each have one fault.
func wrongTrees() []namedTree {
	list := slices.Concat(wrongSizes(), wrongGones(), wrongLinks(), wrongIndexes())
	for _, c := range wrongPages() {
		tree := lone(c.Page)
		tree.Index[0].Low = c.Low
		list = append(list, namedTree{"a page alone: " + c.name, tree})
		last := lineOfPages(2, 1, false)
		last.Pages[1] = c.Page
		list = append(list, namedTree{"a page at last: " + c.name, last})
		gone := lineOfPages(2, 1, false)
		gone.Pages, gone.Gone = append(gone.Pages, c.Page), append(gone.Gone, true)
		list = append(list, namedTree{"a page that is Gone: " + c.name, gone})
	}
	return list
}

// turnedTree is fourPages with something turned in it.
func turnedTree(name string, turn func(t *impl.Tree)) namedTree {
	tree := fourPages()
	turn(&tree)
	return namedTree{name, tree}
}

func wrongSizes() []namedTree {
	oneIndex := impl.Tree{Index: []impl.Ref{{}}}
	return []namedTree{
		{"zero", impl.Tree{}},
		{"lists that are empty", impl.Tree{Pages: []impl.Page{}, Gone: []bool{}, Index: []impl.Ref{}}},
		{"an Index without a page", oneIndex},
		{"a Gone without a page", impl.Tree{Gone: []bool{false}}},
		{"one page too many", lineOfPages(impl.MaxPages+1, 1, false)},
		{"one page too many, posted", lineOfPages(impl.MaxPages+1, 1, true)},
		{"far too many pages", lineOfPages(impl.MaxList+1, 1, false)},
		{"a page without Gone", impl.Tree{Pages: []impl.Page{{Right: -1}}, Index: []impl.Ref{{}}}},
		turnedTree("a Gone too few, of one that is Gone", func(t *impl.Tree) { t.Gone = t.Gone[:3] }),
		turnedTree("two Gones too few", func(t *impl.Tree) { t.Gone = t.Gone[:2] }),
		turnedTree("a Gone too many", func(t *impl.Tree) { t.Gone = append(t.Gone, false) }),
		turnedTree("a Gone too many that is set", func(t *impl.Tree) { t.Gone = append(t.Gone, true) }),
		turnedTree("far too many Gones", func(t *impl.Tree) { t.Gone = make([]bool, impl.MaxList+1) }),
		turnedTree("a Gone too few, of one that is here", func(t *impl.Tree) {
			t.Pages, t.Gone = t.Pages[:3], t.Gone[:2]
		}),
		{"one page too many, that is Gone", func() impl.Tree {
			tree := lineOfPages(impl.MaxPages, 1, true)
			tree.Pages, tree.Gone = append(tree.Pages, impl.Page{Right: -1}), append(tree.Gone, true)
			return tree
		}()},
	}
}

func wrongGones() []namedTree {
	in := func(name string, p impl.Page) namedTree {
		return turnedTree("one that is Gone has "+name, func(t *impl.Tree) { t.Pages[3] = p })
	}
	return []namedTree{
		in("a Low", impl.Page{Low: "x", Right: -1}),
		in("bounds", impl.Page{High: "x", Right: 1}),
		in("bounds, to itself", impl.Page{Low: "d", High: "m", Right: 3}),
		in("an entry", impl.Page{Right: -1, Base: entriesOf("a=")}),
		in("a put", impl.Page{Right: -1, Chain: chain(put("a", ""))}),
		in("a drop", impl.Page{Right: -1, Chain: chain(drop("a"))}),
		in("a split", impl.Page{Right: -1, Chain: chain(split("a", 1))}),
		in("Right 0", impl.Page{}),
		in("Right -2", impl.Page{Right: -2}),
		in("all of another page", fourPages().Pages[2]),
		{"page 0 alone is Gone", impl.Tree{Pages: []impl.Page{{Right: -1}}, Gone: []bool{true}, Index: []impl.Ref{{}}}},
		{"page 0 alone is Gone, no Index", impl.Tree{Pages: []impl.Page{{Right: -1}}, Gone: []bool{true}}},
		{"page 0 is Gone, another one begins", impl.Tree{Pages: []impl.Page{{Right: -1}, {Right: -1}}, Gone: []bool{true, false}, Index: []impl.Ref{{Low: "", Id: 1}}}},
		{"page 0 is Gone, another one begins, the Index with page 0", impl.Tree{Pages: []impl.Page{{Right: -1}, {Right: -1}}, Gone: []bool{true, false}, Index: []impl.Ref{{}}}},
		turnedTree("page 0 is Gone", func(t *impl.Tree) { t.Pages[0], t.Gone[0] = impl.Page{Right: -1}, true }),
		turnedTree("page 0 is Gone, with all it had", func(t *impl.Tree) { t.Gone[0] = true }),
		turnedTree("a page between is Gone", func(t *impl.Tree) { t.Pages[1], t.Gone[1] = impl.Page{Right: -1}, true }),
		turnedTree("the last page is Gone", func(t *impl.Tree) { t.Pages[2], t.Gone[2] = impl.Page{Right: -1}, true }),
		turnedTree("the last page is Gone, and not in the Index", func(t *impl.Tree) {
			t.Pages[2], t.Gone[2], t.Index = impl.Page{Right: -1}, true, t.Index[:1]
		}),
		turnedTree("one that has nothing is not Gone", func(t *impl.Tree) { t.Gone[3] = false }),
	}
}

func wrongLinks() []namedTree {
	list := []namedTree{
		{"page 0 alone with a Low", impl.Tree{Pages: []impl.Page{{Low: "a", Right: -1}}, Gone: []bool{false}, Index: []impl.Ref{{Low: "a", Id: 0}}}},
		{"page 0 alone with a Low that the Index has not", lone(impl.Page{Low: "a", Right: -1})},
		turnedTree("page 0 with a Low", func(t *impl.Tree) { t.Pages[0].Low = "a" }),
		turnedTree("page 0 with a Low, in the Index too", func(t *impl.Tree) { t.Pages[0].Low, t.Index[0].Low = "a", "a" }),
		turnedTree("a Low above the upper bound ahead", func(t *impl.Tree) { t.Pages[0].High = "c\xff" }),
		turnedTree("a Low below the upper bound ahead", func(t *impl.Tree) { t.Pages[0].High = "d\x00" }),
		turnedTree("a Low of nothing", func(t *impl.Tree) { t.Pages[1].Low = "" }),
		turnedTree("a Low that was the upper bound ahead of a split", func(t *impl.Tree) {
			t.Pages[1].High, t.Pages[1].Right, t.Pages[1].Chain = "m", 2, chain(split("l", 2))
		}),
		turnedTree("a Low that is the first of two splits", func(t *impl.Tree) { t.Pages[1].Chain = append(t.Pages[1].Chain, split("k", 2)) }),
		turnedTree("a page that does not stand there", func(t *impl.Tree) { t.Pages[0].Right = 2 }),
		turnedTree("a page that does not stand there, alike", func(t *impl.Tree) {
			t.Pages[3], t.Gone[3] = impl.Page{Low: "d", High: "m", Right: 2}, false
		}),
		turnedTree("two that go to the same page", func(t *impl.Tree) {
			t.Pages[3], t.Gone[3] = impl.Page{Low: "f", High: "m", Right: 2}, false
		}),
		turnedTree("a page without bounds that stands nowhere", func(t *impl.Tree) { t.Pages[3], t.Gone[3] = whole(entriesOf("q=1")), false }),
		turnedTree("a last page that stands nowhere", func(t *impl.Tree) { t.Pages[3], t.Gone[3] = impl.Page{Low: "zz", Right: -1}, false }),
		turnedTree("an end too early", func(t *impl.Tree) { t.Pages[0].High, t.Pages[0].Right = "", -1 }),
		turnedTree("an end too early behind it", func(t *impl.Tree) { t.Pages[1].Chain = nil }),
		turnedTree("a last page with a bound", func(t *impl.Tree) { t.Pages[2].High, t.Pages[2].Right = "zz", 0 }),
		turnedTree("a last page with a bound, to itself", func(t *impl.Tree) { t.Pages[2].High, t.Pages[2].Right = "zz", 2 }),
		turnedTree("a last page with a bound by a split", func(t *impl.Tree) { t.Pages[2].Chain = chain(split("z", 1)) }),
		turnedTree("a last page with a bound, to one that is Gone", func(t *impl.Tree) { t.Pages[2].High, t.Pages[2].Right = "zz", 3 }),
		turnedTree("a ring of page 0 alone", func(t *impl.Tree) { t.Pages[0].Right = 0 }),
		turnedTree("a ring of two", func(t *impl.Tree) { t.Pages[1].Chain[0].To = 0 }),
		turnedTree("a ring behind page 0", func(t *impl.Tree) { t.Pages[1].Chain[0].To = 1 }),
		turnedTree("a ring of the last two", func(t *impl.Tree) { t.Pages[2].High, t.Pages[2].Right = "zz", 1 }),
		{"a ring of one page alone", lone(impl.Page{High: "k", Right: 0})},
		{"a ring of one page alone by a split", lone(whole(nil, split("k", 0)))},
	}
	for _, id := range []int{3, 4, 5, impl.MaxPages, impl.MaxId} {
		list = append(list,
			turnedTree("page 0 goes to "+strconv.Itoa(id), func(t *impl.Tree) { t.Pages[0].Right = id }),
			turnedTree("a split goes to "+strconv.Itoa(id), func(t *impl.Tree) { t.Pages[1].Chain[0].To = id }),
			turnedTree("the last page goes to "+strconv.Itoa(id), func(t *impl.Tree) { t.Pages[2].High, t.Pages[2].Right = "zz", id }))
	}
	return list
}

func wrongIndexes() []namedTree {
	in := func(name string, list ...impl.Ref) namedTree {
		return turnedTree("an Index "+name, func(t *impl.Tree) { t.Index = list })
	}
	list := []namedTree{
		in("that is nil"),
		in("that is empty", []impl.Ref{}...),
		in("without page 0", impl.Ref{Low: "d", Id: 1}),
		in("without page 0, rising", impl.Ref{Low: "d", Id: 1}, impl.Ref{Low: "m", Id: 2}),
		in("with page 0 at last", impl.Ref{Low: "d", Id: 1}, impl.Ref{Low: "", Id: 0}),
		in("that begins with nothing's Low", impl.Ref{Low: "", Id: 1}),
		in("that begins with one that is Gone", impl.Ref{Low: "", Id: 3}),
		in("with a wrong Low of page 0", impl.Ref{Low: "a", Id: 0}),
		in("that falls", impl.Ref{}, impl.Ref{Low: "m", Id: 2}, impl.Ref{Low: "d", Id: 1}),
		in("with page 0 twice", impl.Ref{}, impl.Ref{}),
		in("with a page twice", impl.Ref{}, impl.Ref{Low: "d", Id: 1}, impl.Ref{Low: "d", Id: 1}),
		in("with a Low twice", impl.Ref{}, impl.Ref{Low: "d", Id: 1}, impl.Ref{Low: "d", Id: 2}),
		in("with a wrong Low", impl.Ref{}, impl.Ref{Low: "e", Id: 1}),
		in("with a Low that is a beginning", impl.Ref{}, impl.Ref{Low: "d\x00", Id: 1}),
		in("with another one's Low", impl.Ref{}, impl.Ref{Low: "m", Id: 1}),
		in("with a Low of far too many bytes", impl.Ref{}, impl.Ref{Low: strings.Repeat("d", impl.MaxText+1), Id: 1}),
		in("with one that is Gone", impl.Ref{}, impl.Ref{Low: "", Id: 3}),
		in("with one that is Gone, rising", impl.Ref{}, impl.Ref{Low: "d", Id: 1}, impl.Ref{Low: "e", Id: 3}, impl.Ref{Low: "m", Id: 2}),
		in("with more Refs than pages", impl.Ref{}, impl.Ref{Low: "d", Id: 1}, impl.Ref{Low: "m", Id: 2}, impl.Ref{Low: "n", Id: 2}, impl.Ref{Low: "o", Id: 2}),
		in("with far too many Refs", make([]impl.Ref, impl.MaxList+1)...),
		{"more Refs than a page", impl.Tree{Pages: []impl.Page{{Right: -1}}, Gone: []bool{false}, Index: make([]impl.Ref, 2)}},
	}
	for _, id := range []int{math.MinInt, -1, 4, 5, impl.MaxPages, math.MaxInt} {
		list = append(list,
			in("that begins with page "+strconv.Itoa(id), impl.Ref{Low: "", Id: id}),
			in("with page "+strconv.Itoa(id), impl.Ref{}, impl.Ref{Low: "d", Id: id}))
	}
	return list
}
