package tests

import (
	"math"
	"slices"
	"strconv"
	"strings"
	"testing"

	"loop.example/g00163/impl"
)

func TestTreeConstants(t *testing.T) {
	if impl.MaxPages != 30 || impl.MaxSteps != 150 {
		t.Error("limits", impl.MaxPages, impl.MaxSteps)
	}
	if impl.TrPut != 1 || impl.TrDrop != 2 || impl.TrConsolidate != 3 || impl.TrSplit != 4 || impl.TrPost != 5 || impl.TrMerge != 6 {
		t.Error("kinds")
	}
}

func TestNewTree(t *testing.T) {
	wantTree(t, "a new tree", impl.NewTree(), lone(impl.Page{Right: -1}))
	wantGet(t, "a new tree", impl.NewTree(), "a", "", 0, impl.ErrNone)
	wantTreeScan(t, "a new tree", impl.NewTree(), "", "", nil)
}

func TestRightTrees(t *testing.T) {
	for _, c := range rightTrees() {
		if !impl.TreeOK(c.Tree) {
			t.Errorf("%s: not right", c.name)
		}
		if !plainTreeOK(c.Tree) {
			t.Errorf("%s: not right in the tests themselves", c.name)
		}
	}
}

// Each call says ErrBad of a tree that is not right, whatever else is wrong;
// but for texts that are too long.
func TestWrongTrees(t *testing.T) {
	tooLongText := strings.Repeat("k", impl.MaxText+1)
	for _, c := range wrongTrees() {
		if impl.TreeOK(c.Tree) {
			t.Errorf("%s: right", c.name)
		}
		if plainTreeOK(c.Tree) {
			t.Errorf("%s: right in the tests themselves", c.name)
		}
		for _, key := range []string{"a", "d", "z", "", longKey, tooLongKey, tooLongText[1:]} {
			wantGet(t, c.name, c.Tree, key, "", 0, impl.ErrBad)
		}
		wantGet(t, c.name, c.Tree, tooLongText, "", 0, impl.ErrLong)
		for _, s := range [][2]string{{"", ""}, {"b", "e"}, {"e", "b"}, {tooLongText[1:], tooLongText[1:]}} {
			wantNoScan(t, c.name, c.Tree, s[0], s[1], impl.ErrBad)
		}
		wantNoScan(t, c.name, c.Tree, tooLongText, "", impl.ErrLong)
		wantNoScan(t, c.name, c.Tree, "", tooLongText, impl.ErrLong)
		for kind := -1; kind <= 7; kind++ {
			for _, id := range []int{0, 1, -1, math.MaxInt} {
				wantNoStep(t, c.name, c.Tree, impl.TreeAct{Kind: kind, Id: id, Key: "e"}, impl.ErrBad)
			}
			wantNoStep(t, c.name, c.Tree, impl.TreeAct{Kind: kind, Key: tooLongText, Value: tooLongText}, impl.ErrBad)
		}
	}
}

func wantNoScan(t *testing.T, what string, tree impl.Tree, from, to string, code int) {
	t.Helper()
	if list, c := impl.TreeScan(tree, from, to); c != code || len(list) != 0 {
		t.Errorf("%s: TreeScan has %d entries and code %d, want code %d", what, len(list), c, code)
	}
}

func TestGetInATree(t *testing.T) {
	four := fourPages()
	all := four
	all.Index = []impl.Ref{{Low: "", Id: 0}, {Low: "d", Id: 1}, {Low: "m", Id: 2}}
	none := four
	none.Index = four.Index[:1]
	for _, c := range []struct {
		name       string
		tree       impl.Tree
		key, want  string
		hops, code int
	}{
		{"the first", four, "a", "1", 0, impl.OK},
		{"ahead of all", four, "\x00", "", 0, impl.ErrNone},
		{"in a Chain", four, "c", "3", 0, impl.OK},
		{"just below a page that is not posted", four, "c\xff", "", 0, impl.ErrNone},
		{"just at a page that is not posted", four, "d", "4", 1, impl.OK},
		{"dropped in a page that is not posted", four, "f", "", 1, impl.ErrNone},
		{"behind all in a page that is not posted", four, "l\xff", "", 1, impl.ErrNone},
		{"just at a page that is posted", four, "m", "6", 0, impl.OK},
		{"behind all", four, "\xff", "", 0, impl.ErrNone},
		{"the last", four, "z", "8", 0, impl.OK},
		{"two pages to the right", none, "z", "8", 2, impl.OK},
		{"two pages to the right, just there", none, "m", "6", 2, impl.OK},
		{"two pages to the right, none", none, "zz", "", 2, impl.ErrNone},
		{"one page to the right", none, "d", "4", 1, impl.OK},
		{"no page to the right", none, "b", "2", 0, impl.OK},
		{"all posted, the second page", all, "d", "4", 0, impl.OK},
		{"all posted, none in the second page", all, "f", "", 0, impl.ErrNone},
		{"all posted, the last page", all, "n", "7", 0, impl.OK},
		{"of MaxEntry bytes", four, longKey, "", 0, impl.ErrNone},
		{"of one more byte", four, tooLongKey, "", 0, impl.ErrBad},
		{"of no byte", four, "", "", 0, impl.ErrBad},
		{"of MaxText bytes", four, strings.Repeat("a", impl.MaxText), "", 0, impl.ErrBad},
		{"of more than MaxText bytes", four, strings.Repeat("a", impl.MaxText+1), "", 0, impl.ErrLong},
	} {
		wantGet(t, c.name, c.tree, c.key, c.want, c.hops, c.code)
	}
	line := lineOfPages(impl.MaxPages, 1, false)
	for i := range impl.MaxPages {
		wantGet(t, "a long line", line, numbered(i)+"10", "0", i, impl.OK)
		wantGet(t, "a long line", line, numbered(i)+"11", "", i, impl.ErrNone)
	}
}

// A Low in the Index is held against keys byte by byte, a beginning ahead.
func TestGetByTheLastRef(t *testing.T) {
	lows := []string{"", "\x00", "a", "a\x00", "aa", "b", "\x7f", "\x80", "\xc3\xa4", "\xff", "\xff\xff"}
	tree := impl.Tree{Gone: make([]bool, len(lows))}
	for i, low := range lows {
		p := impl.Page{Low: low, Right: -1}
		if i+1 < len(lows) {
			p.High, p.Right = lows[i+1], i+1
		}
		tree.Pages = append(tree.Pages, p)
		// Each third one is not posted.
		if i%3 != 2 {
			tree.Index = append(tree.Index, impl.Ref{Low: low, Id: i})
		}
	}
	for i, low := range lows[1:] {
		hops := 0
		if (i+1)%3 == 2 {
			hops = 1
		}
		wantGet(t, "just at a Low", tree, low, "", hops, impl.ErrNone)
		got := wantStep(t, "just at a Low", tree, treePut(low, "x"), i+1)
		wantGet(t, "put at a Low", got, low, "x", hops, impl.OK)
	}
}

func TestScanOfATree(t *testing.T) {
	four := fourPages()
	all := entriesOf("a=1", "b=2", "c=3", "d=4", "m=6", "n=7", "z=8")
	for _, c := range []struct {
		name, from, to string
		first, behind  int
	}{
		{"all", "", "", 0, 7},
		{"from the first key", "a", "", 0, 7},
		{"behind the first key", "a\x00", "", 1, 7},
		{"up to the last key", "", "z", 0, 6},
		{"up to behind the last key", "", "z\x00", 0, 7},
		{"alike", "b", "b", 0, 0},
		{"alike, behind all", "zz", "zz", 0, 0},
		{"turned round", "m", "b", 0, 0},
		{"turned round, within a page", "n", "m", 0, 0},
		{"within a page", "a", "c", 0, 2},
		{"one key alone", "b", "b\x00", 1, 2},
		{"within a page that is not posted", "d", "f", 3, 4},
		{"what was dropped alone", "e", "m", 0, 0},
		{"over a page that is not posted", "b", "n", 1, 5},
		{"from a page that is not posted on", "e", "", 4, 7},
		{"up to just where a page begins", "c", "d", 2, 3},
		{"up to behind where a page begins", "c", "d\x00", 2, 4},
		{"behind all", "zz", "", 0, 0},
		{"below all", "", "a", 0, 0},
		{"below all, by an empty beginning", "", "\x00", 0, 0},
		{"bounds of more than MaxEntry bytes", "a" + longKey, "n" + longKey, 1, 6},
		{"bounds of MaxText bytes", strings.Repeat("b", impl.MaxText), strings.Repeat("n", impl.MaxText), 2, 6},
	} {
		wantTreeScan(t, c.name, four, c.from, c.to, all[c.first:c.behind])
	}
	tooLongText := strings.Repeat("b", impl.MaxText+1)
	wantNoScan(t, "from too long", four, tooLongText, "", impl.ErrLong)
	wantNoScan(t, "to too long", four, "", tooLongText, impl.ErrLong)
	wantNoScan(t, "both too long", four, tooLongText, tooLongText, impl.ErrLong)
	wantTreeScan(t, "MaxPages pages of MaxBase entries", lineOfPages(impl.MaxPages, impl.MaxBase, false), "", "", plainTreeScan(lineOfPages(impl.MaxPages, impl.MaxBase, true), "", ""))
	if list, _ := impl.TreeScan(lineOfPages(impl.MaxPages, impl.MaxBase, true), "", ""); len(list) != impl.MaxPages*impl.MaxBase {
		t.Errorf("%d entries are scanned", len(list))
	}
}

func TestPutAndDropTellTheirPage(t *testing.T) {
	four := fourPages()
	for _, c := range []struct {
		key  string
		page int
	}{{"\x00", 0}, {"a", 0}, {"c\xff", 0}, {"d", 1}, {"f", 1}, {"l\xff", 1}, {"m", 2}, {"m\x00", 2}, {"zz", 2}, {longKey, 2}} {
		want := fourPages()
		want.Pages[c.page].Chain = append(want.Pages[c.page].Chain, put(c.key, "x"))
		wantTree(t, "a put of "+c.key, wantStep(t, "a put of "+c.key, four, treePut(c.key, "x"), c.page), want)
		want = fourPages()
		want.Pages[c.page].Chain = append(want.Pages[c.page].Chain, drop(c.key))
		wantTree(t, "a drop of "+c.key, wantStep(t, "a drop of "+c.key, four, treeDrop(c.key), c.page), want)
	}
	// Neither a wrong Id nor, of a drop, a Value is in what changes.
	want := fourPages()
	want.Pages[0].Chain = append(want.Pages[0].Chain, drop("b"))
	for _, id := range []int{0, 3, -1, math.MaxInt} {
		act := impl.TreeAct{Kind: impl.TrDrop, Id: id, Key: "b", Value: longValue}
		wantTree(t, "a drop with a Value", wantStep(t, "a drop with a Value", four, act, 0), want)
		act = impl.TreeAct{Kind: impl.TrPut, Id: id, Key: "e", Value: "x"}
		wantStep(t, "a put with an Id", four, act, 1)
	}
}

func TestPutAndDropSizes(t *testing.T) {
	keys := []struct {
		key string
		ok  bool
	}{{"", false}, {"k", true}, {longKey, true}, {tooLongKey, false}, {strings.Repeat("k", impl.MaxText), false}, {strings.Repeat("k", impl.MaxText+1), false}}
	values := []struct {
		value string
		ok    bool
	}{{"", true}, {"v", true}, {longValue, true}, {tooLong, false}, {strings.Repeat("v", impl.MaxText), false}, {strings.Repeat("v", impl.MaxText+1), false}}
	crowded := lone(whole(manyEntries(impl.MaxBase)))
	for _, k := range keys {
		for _, v := range values {
			for _, kind := range []int{impl.TrPut, impl.TrDrop} {
				act := impl.TreeAct{Kind: kind, Key: k.key, Value: v.value}
				if !k.ok || !v.ok {
					wantNoStep(t, "sizes", impl.NewTree(), act, impl.ErrSize)
					wantNoStep(t, "sizes, without room", crowded, act, impl.ErrSize)
					continue
				}
				next := wantStep(t, "sizes", impl.NewTree(), act, 0)
				if kind == impl.TrPut {
					wantGet(t, "sizes", next, k.key, v.value, 0, impl.OK)
				} else {
					wantGet(t, "sizes", next, k.key, "", 0, impl.ErrNone)
				}
			}
		}
	}
}

// A page whose Chain has MaxChain is put together ahead of a change.
func TestPutAndDropBehindAFullChain(t *testing.T) {
	drops := slices.Repeat(chain(drop("x")), impl.MaxChain)
	base := manyEntries(impl.MaxBase)
	nearly := base[:impl.MaxBase-1]
	for _, c := range []struct {
		name string
		p    impl.Page
		a    impl.TreeAct
		want impl.Page
	}{
		{"a put", whole(base[:3], drops...), treePut("z", "1"), whole(base[:3], put("z", "1"))},
		{"a put of what is there", whole(base[:3], drops...), treePut(numbered(1), "1"), whole(base[:3], put(numbered(1), "1"))},
		{"a drop", whole(base[:3], drops...), treeDrop(numbered(1)), whole(base[:3], drop(numbered(1)))},
		{"a drop of none", whole(base[:3], drops...), treeDrop("z"), whole(base[:3], drop("z"))},
		{"one change fewer", whole(base[:3], drops[1:]...), treeDrop("z"), whole(base[:3], append(drops[1:len(drops):len(drops)], drop("z"))...)},
		{"puts", whole(nil, manyPuts(0, impl.MaxChain)...), treePut("z", ""), whole(putEntries(0, impl.MaxChain), put("z", ""))},
		{"the last entry", whole(nearly, drops...), treePut("z", ""), whole(nearly, put("z", ""))},
		{"MaxBase entries, a put of what is there", whole(base, drops...), treePut(numbered(31), "1"), whole(base, put(numbered(31), "1"))},
		{"MaxBase entries, a drop", whole(base, drops...), treeDrop(numbered(31)), whole(base, drop(numbered(31)))},
		{"MaxBase entries, a drop of none", whole(base, drops...), treeDrop("z"), whole(base, drop("z"))},
		{"MaxBase entries, no Chain, a put of what is there", whole(base), treePut(numbered(0), ""), whole(base, put(numbered(0), ""))},
		{"MaxBase entries, no Chain, a drop of none", whole(base), treeDrop("z"), whole(base, drop("z"))},
		{"room by a drop", whole(base, drop(numbered(4))), treePut("z", ""), whole(base, drop(numbered(4)), put("z", ""))},
	} {
		wantTree(t, c.name, wantStep(t, c.name, lone(c.p), c.a, 0), lone(c.want))
	}
	wantNoStep(t, "MaxBase entries", lone(whole(base)), treePut("z", ""), impl.ErrFull)
	wantNoStep(t, "MaxBase entries, ahead of all", lone(whole(base)), treePut("a", ""), impl.ErrFull)
	wantNoStep(t, "MaxBase entries and a full Chain", lone(whole(base, drops...)), treePut("z", ""), impl.ErrFull)
	wantNoStep(t, "MaxBase entries by puts", lone(whole(manyEntries(20), manyPuts(20, 12)...)), treePut("z", ""), impl.ErrFull)
	// A page that a split cut has room, and so has its full neighbour's neighbour.
	line := lineOfPages(3, impl.MaxBase-1, false)
	line = stepped(t, line, treePut(numbered(1)+"99", ""))
	wantNoStep(t, "a full page between", line, treePut(numbered(1)+"98", ""), impl.ErrFull)
	wantStep(t, "the page ahead", line, treePut(numbered(0)+"99", ""), 0)
	wantStep(t, "the page behind", line, treePut(numbered(2)+"99", ""), 2)
}

// Where the page that is put together had a split in its Chain, the bounds stay.
func TestChangesBehindAFullChainWithASplit(t *testing.T) {
	tree := lone(whole(manyEntries(8), slices.Repeat(chain(drop("x")), impl.MaxChain-1)...))
	tree = wantStep(t, "the last change of a Chain", tree, treeAct(impl.TrSplit, 0), 1)
	tree = wantStep(t, "behind it", tree, treePut(numbered(2), "new"), 0)
	want := impl.Page{High: numbered(4), Right: 1, Base: manyEntries(4), Chain: chain(put(numbered(2), "new"))}
	wantPage(t, "behind it", tree.Pages[0], want)
	wantGet(t, "behind it", tree, numbered(2), "new", 0, impl.OK)
	wantGet(t, "behind it", tree, numbered(6), "6", 1, impl.OK)
}

func TestConsolidateStep(t *testing.T) {
	for _, c := range []struct {
		name string
		p    impl.Page
	}{
		{"no changes", whole(manyEntries(3))},
		{"nothing at all", whole(nil)},
		{"one change", whole(manyEntries(3), drop(numbered(1)))},
		{"MaxChain changes", whole(manyEntries(3), manyPuts(2, impl.MaxChain)...)},
		{"more in between", whole(manyEntries(impl.MaxBase), put("z", "x"), drop(numbered(0)))},
	} {
		next := wantStep(t, c.name, lone(c.p), treeAct(impl.TrConsolidate, 0), len(c.p.Chain))
		wantTree(t, c.name, next, lone(plainTogether(c.p)))
		wantTree(t, c.name+", again", wantStep(t, c.name, next, treeAct(impl.TrConsolidate, 0), 0), next)
	}
	want := fourPages()
	want.Pages[1] = impl.Page{Low: "d", High: "m", Right: 2, Base: entriesOf("d=4")}
	wantTree(t, "a split in a Chain", wantStep(t, "a split in a Chain", fourPages(), treeAct(impl.TrConsolidate, 1), 2), want)
	wantTree(t, "the last page", wantStep(t, "the last page", fourPages(), treeAct(impl.TrConsolidate, 2), 0), fourPages())
}

func TestSplitStep(t *testing.T) {
	for n := 2; n <= impl.MaxBase; n++ {
		what := "a split of " + strconv.Itoa(n)
		next := wantStep(t, what, lone(whole(manyEntries(n))), treeAct(impl.TrSplit, 0), 1)
		key := numbered(n / 2)
		wantTree(t, what, next, impl.Tree{
			Pages: []impl.Page{whole(manyEntries(n), split(key, 1)), {Low: key, Right: -1, Base: manyEntries(n)[n/2:]}},
			Gone:  []bool{false, false},
			Index: []impl.Ref{{}},
		})
		for i := range n {
			hops := 0
			if i >= n/2 {
				hops = 1
			}
			wantGet(t, what, next, numbered(i), strconv.Itoa(i), hops, impl.OK)
		}
		wantTreeScan(t, what, next, "", "", manyEntries(n))
	}
	for _, p := range []impl.Page{whole(nil), whole(manyEntries(1)), whole(nil, put("a", "")), whole(manyEntries(2), drop(numbered(1))), whole(entriesOf("a=1"), put("a", "2"))} {
		wantNoStep(t, "fewer than 2 entries", lone(p), treeAct(impl.TrSplit, 0), impl.ErrNone)
	}
	// Of a page between: the new one goes where it went.
	want := fourPages()
	want.Pages[0].Chain = append(want.Pages[0].Chain, split("b", 4))
	want.Pages = append(want.Pages, impl.Page{Low: "b", High: "d", Right: 1, Base: entriesOf("b=2", "c=3")})
	want.Gone = append(want.Gone, false)
	wantTree(t, "three entries, with a Chain", wantStep(t, "three entries", fourPages(), treeAct(impl.TrSplit, 0), 4), want)
	wantNoStep(t, "one entry behind all changes", fourPages(), treeAct(impl.TrSplit, 1), impl.ErrNone)
}

func TestSplitOfAPageThatWasSplit(t *testing.T) {
	tree := lone(whole(manyEntries(8)))
	tree = wantStep(t, "the first split", tree, treeAct(impl.TrSplit, 0), 1)
	tree = wantStep(t, "the second split", tree, treeAct(impl.TrSplit, 0), 2)
	tree = wantStep(t, "a split of the new page", tree, treeAct(impl.TrSplit, 1), 3)
	all := manyEntries(8)
	wantTree(t, "split three times", tree, impl.Tree{
		Pages: []impl.Page{
			whole(all, split(numbered(4), 1), split(numbered(2), 2)),
			{Low: numbered(4), Right: -1, Base: all[4:], Chain: chain(split(numbered(6), 3))},
			{Low: numbered(2), High: numbered(4), Right: 1, Base: all[2:4]},
			{Low: numbered(6), Right: -1, Base: all[6:]},
		},
		Gone:  make([]bool, 4),
		Index: []impl.Ref{{}},
	})
	for i := range 8 {
		wantGet(t, "split three times", tree, numbered(i), strconv.Itoa(i), i/2, impl.OK)
	}
	tree = wantStep(t, "split to one entry", tree, treeAct(impl.TrSplit, 0), 4)
	wantNoStep(t, "one entry is left", tree, treeAct(impl.TrSplit, 0), impl.ErrNone)
}

func TestSplitWithoutRoom(t *testing.T) {
	full := slices.Repeat(chain(drop("x")), impl.MaxChain)
	wantNoStep(t, "a full Chain", lone(whole(manyEntries(4), full...)), treeAct(impl.TrSplit, 0), impl.ErrFull)
	wantStep(t, "one change fewer", lone(whole(manyEntries(4), full[1:]...)), treeAct(impl.TrSplit, 0), 1)
	wantNoStep(t, "a full Chain, one entry", lone(whole(manyEntries(1), full...)), treeAct(impl.TrSplit, 0), impl.ErrNone)
	most := lineOfPages(impl.MaxPages, 4, true)
	wantNoStep(t, "MaxPages", most, treeAct(impl.TrSplit, 3), impl.ErrFull)
	wantNoStep(t, "MaxPages, one entry", lineOfPages(impl.MaxPages, 1, true), treeAct(impl.TrSplit, 3), impl.ErrNone)
	wantNoStep(t, "MaxPages, no such page", most, treeAct(impl.TrSplit, impl.MaxPages), impl.ErrRange)
	wantNoStep(t, "MaxPages, below 0", most, treeAct(impl.TrSplit, -1), impl.ErrRange)
	wantStep(t, "one page fewer", lineOfPages(impl.MaxPages-1, 4, true), treeAct(impl.TrSplit, 3), impl.MaxPages-1)
	// A page that is Gone leaves no room.
	merged := wantStep(t, "a merge", most, treeAct(impl.TrMerge, 7), 8)
	wantNoStep(t, "MaxPages, one Gone", merged, treeAct(impl.TrSplit, 3), impl.ErrFull)
	wantNoStep(t, "MaxPages, that one", merged, treeAct(impl.TrSplit, 8), impl.ErrGone)
	both := lineOfPages(impl.MaxPages, 4, true)
	both.Pages[0].Chain = slices.Repeat(chain(drop("k")), impl.MaxChain)
	wantNoStep(t, "MaxPages and a full Chain", both, treeAct(impl.TrSplit, 0), impl.ErrFull)
}

func TestPostStep(t *testing.T) {
	tree := lineOfPages(6, 2, false)
	for _, c := range []struct{ id, place int }{{3, 1}, {5, 2}, {1, 1}, {4, 3}, {2, 2}} {
		before := tree
		tree = wantStep(t, "a post", tree, treeAct(impl.TrPost, c.id), c.place)
		if tree.Index[c.place] != (impl.Ref{Low: numbered(c.id), Id: c.id}) {
			t.Errorf("page %d is not in place %d: %v", c.id, c.place, tree.Index)
		}
		before.Index = tree.Index
		wantTree(t, "all else behind a post", tree, before)
		wantNoStep(t, "posted already", tree, treeAct(impl.TrPost, c.id), impl.ErrState)
		wantNoStep(t, "page 0", tree, treeAct(impl.TrPost, 0), impl.ErrState)
	}
	wantTree(t, "all posted", tree, lineOfPages(6, 2, true))
	wantNoStep(t, "page 0 of a new tree", impl.NewTree(), treeAct(impl.TrPost, 0), impl.ErrState)
	four := wantStep(t, "one between", fourPages(), treeAct(impl.TrPost, 1), 1)
	if !slices.Equal(four.Index, []impl.Ref{{Low: "", Id: 0}, {Low: "d", Id: 1}, {Low: "m", Id: 2}}) {
		t.Error("posted between", four.Index)
	}
}

// A key takes fewer steps to the right as pages are posted, more as they are split.
func TestHopsBehindSplitsPostsAndMerges(t *testing.T) {
	tree := lone(whole(manyEntries(16)))
	hops := func(what string, want ...int) {
		t.Helper()
		for i, n := range want {
			wantGet(t, what, tree, numbered(i*16/len(want)), strconv.Itoa(i*16/len(want)), n, impl.OK)
			wantGet(t, what, tree, numbered(i*16/len(want))+"x", "", n, impl.ErrNone)
		}
	}
	hops("one page", 0)
	tree = stepped(t, tree, treeAct(impl.TrSplit, 0))
	hops("a split", 0, 1)
	tree = stepped(t, tree, treeAct(impl.TrSplit, 1), treeAct(impl.TrSplit, 0))
	hops("three splits", 0, 1, 2, 3)
	tree = stepped(t, tree, treeAct(impl.TrPost, 1))
	hops("the third page posted", 0, 1, 0, 1)
	tree = stepped(t, tree, treeAct(impl.TrPost, 3))
	hops("the second page posted", 0, 0, 0, 1)
	tree = stepped(t, tree, treeAct(impl.TrMerge, 3))
	hops("the third page merged", 0, 0, 0, 1)
	wantGet(t, "the third page merged", tree, numbered(8), "8", 0, impl.OK)
	tree = stepped(t, tree, treeAct(impl.TrPost, 2))
	hops("the last page posted", 0, 0, 0, 0)
	tree = stepped(t, tree, treeAct(impl.TrConsolidate, 0))
	hops("page 0 put together", 0, 0, 0, 0)
}

func TestMergeStep(t *testing.T) {
	// Page 1 was split by a change, page 2 is posted.
	want := fourPages()
	want.Pages[1] = impl.Page{Low: "d", Right: -1, Base: entriesOf("d=4", "m=6", "n=7", "z=8")}
	want.Pages[2], want.Gone[2] = impl.Page{Right: -1}, true
	want.Index = want.Index[:1]
	wantTree(t, "a neighbour in the Index", wantStep(t, "a merge", fourPages(), treeAct(impl.TrMerge, 1), 2), want)
	// Page 1 is not posted, page 2 stays so.
	want = fourPages()
	want.Pages[0] = impl.Page{High: "m", Right: 2, Base: entriesOf("a=1", "b=2", "c=3", "d=4")}
	want.Pages[1], want.Gone[1] = impl.Page{Right: -1}, true
	got := wantStep(t, "a merge", fourPages(), treeAct(impl.TrMerge, 0), 1)
	wantTree(t, "a neighbour that is not in the Index", got, want)
	want.Pages[0] = whole(entriesOf("a=1", "b=2", "c=3", "d=4", "m=6", "n=7", "z=8"))
	want.Pages[2], want.Gone[2] = impl.Page{Right: -1}, true
	want.Index = want.Index[:1]
	got = wantStep(t, "the last merge", got, treeAct(impl.TrMerge, 0), 2)
	wantTree(t, "one page is left", got, want)
	wantNoStep(t, "one page is left", got, treeAct(impl.TrMerge, 0), impl.ErrNone)
	wantNoStep(t, "the last page", fourPages(), treeAct(impl.TrMerge, 2), impl.ErrNone)
	wantNoStep(t, "a new tree", impl.NewTree(), treeAct(impl.TrMerge, 0), impl.ErrNone)
	wantNoStep(t, "a full page alone", lone(whole(manyEntries(impl.MaxBase))), treeAct(impl.TrMerge, 0), impl.ErrNone)
}

func TestMergeUpToTheLimit(t *testing.T) {
	for _, c := range []struct {
		name        string
		left, right int
		chain       []impl.Delta
		ok          bool
	}{
		{"MaxBase together", 16, 16, nil, true},
		{"one more", 16, 17, nil, false},
		{"one more on the left", 17, 16, nil, false},
		{"all on the left", impl.MaxBase, 0, nil, true},
		{"all on the right", 0, impl.MaxBase, nil, true},
		{"all on the left and one more", impl.MaxBase, 1, nil, false},
		{"one, and all on the right", 1, impl.MaxBase, nil, false},
		{"two full ones", impl.MaxBase, impl.MaxBase, nil, false},
		{"none", 0, 0, nil, true},
		{"one more, but for a drop", 16, 17, chain(drop(numbered(0) + "10")), true},
		{"MaxBase together, but for a put", 16, 16, chain(put("k", "")), false},
		{"MaxBase together, with a put of what is there", 16, 16, chain(put(numbered(0)+"10", "new")), true},
	} {
		tree := lineOfPages(2, 0, true)
		tree.Pages[0].Base = lineOfPages(2, c.left, true).Pages[0].Base
		tree.Pages[0].Chain = c.chain
		tree.Pages[1].Base = lineOfPages(2, c.right, true).Pages[1].Base
		if !c.ok {
			wantNoStep(t, c.name, tree, treeAct(impl.TrMerge, 0), impl.ErrFull)
			continue
		}
		want, _, _ := plainStep(tree, treeAct(impl.TrMerge, 0))
		wantTree(t, c.name, wantStep(t, c.name, tree, treeAct(impl.TrMerge, 0), 1), want)
	}
	// The neighbour's Chain counts, too.
	tree := lineOfPages(2, 16, true)
	tree.Pages[1].Chain = chain(put("z", "z"))
	wantNoStep(t, "a put on the right", tree, treeAct(impl.TrMerge, 0), impl.ErrFull)
	tree.Pages[1].Chain = chain(put("z", "z"), drop(numbered(1)+"10"))
	wantGet(t, "a put and a drop on the right", wantStep(t, "a put and a drop on the right", tree, treeAct(impl.TrMerge, 0), 1), "z", "z", 0, impl.OK)
}

func TestMergeOfPagesThatWereSplitAgain(t *testing.T) {
	tree := stepped(t, lone(whole(manyEntries(8))), treeAct(impl.TrSplit, 0), treeAct(impl.TrPost, 1), treeAct(impl.TrSplit, 0), treeAct(impl.TrSplit, 1))
	// In their order the pages are 0, 2, 1, 3; 1 alone is posted.
	left := wantStep(t, "the page that was split", tree, treeAct(impl.TrMerge, 0), 2)
	wantPage(t, "the page that was split", left.Pages[0], impl.Page{High: numbered(4), Right: 1, Base: manyEntries(4)})
	wantGet(t, "the page that was split", left, numbered(7), "7", 1, impl.OK)
	right := wantStep(t, "with a page that was split", tree, treeAct(impl.TrMerge, 2), 1)
	wantPage(t, "with a page that was split", right.Pages[2], impl.Page{Low: numbered(2), High: numbered(6), Right: 3, Base: manyEntries(6)[2:]})
	wantGet(t, "with a page that was split", right, numbered(4), "4", 1, impl.OK)
	wantGet(t, "with a page that was split", right, numbered(6), "6", 2, impl.OK)
	if !slices.Equal(right.Index, []impl.Ref{{}}) {
		t.Error("the Index behind a merge", right.Index)
	}
	again := wantStep(t, "split again", left, treeAct(impl.TrSplit, 0), 4)
	wantPage(t, "split again", again.Pages[4], impl.Page{Low: numbered(2), High: numbered(4), Right: 1, Base: manyEntries(4)[2:]})
	wantPage(t, "what is Gone stays so", again.Pages[2], impl.Page{Right: -1})
}

func TestStepsAtPagesThatAreNotThere(t *testing.T) {
	four := fourPages()
	for _, kind := range pageKinds {
		for _, id := range []int{math.MinInt, -1, 4, 5, impl.MaxPages, impl.MaxId, math.MaxInt} {
			wantNoStep(t, "no such page", four, treeAct(kind, id), impl.ErrRange)
		}
		wantNoStep(t, "Gone", four, treeAct(kind, 3), impl.ErrGone)
		wantNoStep(t, "Gone, with a wrong key", four, impl.TreeAct{Kind: kind, Id: 3, Key: tooLongKey, Value: tooLong}, impl.ErrGone)
		wantNoStep(t, "no such page in a new tree", impl.NewTree(), treeAct(kind, 1), impl.ErrRange)
	}
	for _, kind := range []int{math.MinInt, -1, 0, 7, 8, 256 + impl.TrPut, 1<<32 + impl.TrPut, math.MaxInt} {
		for _, id := range []int{0, 3, 4, -1} {
			wantNoStep(t, "another Kind", four, treeAct(kind, id), impl.ErrForm)
			wantNoStep(t, "another Kind, with a wrong key", four, impl.TreeAct{Kind: kind, Id: id, Key: tooLongKey, Value: tooLong}, impl.ErrForm)
		}
	}
	// A step at a page looks at no text.
	texts := impl.TreeAct{Kind: impl.TrConsolidate, Key: strings.Repeat("k", impl.MaxText+1), Value: strings.Repeat("v", impl.MaxText+1)}
	wantStep(t, "texts that no step looks at", four, texts, 1)
}

func TestTreeRunCodes(t *testing.T) {
	tree, codes, code := impl.TreeRun(nil)
	if code != impl.OK || len(codes) != 0 {
		t.Error("no steps", codes, code)
	}
	wantTree(t, "no steps", tree, impl.NewTree())
	for _, n := range []int{1, impl.MaxSteps - 1, impl.MaxSteps} {
		tree, codes, code := impl.TreeRun(slices.Repeat([]impl.TreeAct{treePut("a", "1"), treeDrop("a"), {}}, n)[:n])
		if code != impl.OK || len(codes) != n || codes[0] != impl.OK || n > 2 && codes[2] != impl.ErrForm || !impl.TreeOK(tree) {
			t.Errorf("%d steps: %v, code %d", n, codes, code)
		}
	}
	for _, c := range []struct{ n, code int }{{impl.MaxSteps + 1, impl.ErrMany}, {impl.MaxList, impl.ErrMany}, {impl.MaxList + 1, impl.ErrLong}, {2 * impl.MaxList, impl.ErrLong}} {
		tree, codes, code := impl.TreeRun(slices.Repeat([]impl.TreeAct{treePut("a", "1")}, c.n))
		if code != c.code || len(codes) != 0 || !sameTree(tree, impl.Tree{}) {
			t.Errorf("%d steps: %d codes, code %d", c.n, len(codes), code)
		}
	}
}

// A step with a code changes nothing, and the run goes on.
func TestTreeRunGoesOnBehindCodes(t *testing.T) {
	var acts []impl.TreeAct
	for i := range impl.MaxBase {
		acts = append(acts, treePut(numbered(i), strconv.Itoa(i)))
	}
	// Behind 32 puts the Chain has 8: four more drops fill it.
	for range 4 {
		acts = append(acts, treeDrop("x"))
	}
	before, codes, code := impl.TreeRun(acts)
	if code != impl.OK || slices.Max(codes) != impl.OK || len(before.Pages[0].Chain) != impl.MaxChain {
		t.Fatal("a full page", codes, code)
	}
	wrong := []struct {
		a    impl.TreeAct
		code int
	}{
		{treePut("z", ""), impl.ErrFull},
		{treePut("", ""), impl.ErrSize},
		{treePut("a", tooLong), impl.ErrSize},
		{impl.TreeAct{Kind: impl.TrDrop, Key: "a", Value: tooLong}, impl.ErrSize},
		{treePut("a", strings.Repeat("v", impl.MaxText+1)), impl.ErrSize},
		{treeDrop(strings.Repeat("k", impl.MaxText+1)), impl.ErrSize},
		{treeAct(impl.TrSplit, 0), impl.ErrFull},
		{treeAct(impl.TrSplit, 1), impl.ErrRange},
		{treeAct(impl.TrConsolidate, -1), impl.ErrRange},
		{treeAct(impl.TrPost, 0), impl.ErrState},
		{treeAct(impl.TrMerge, 0), impl.ErrNone},
		{treeAct(7, 0), impl.ErrForm},
	}
	for _, c := range wrong {
		acts = append(acts, c.a)
	}
	behind, codes, code := impl.TreeRun(acts)
	if code != impl.OK || len(codes) != len(acts) {
		t.Fatal("with codes", codes, code)
	}
	for i, c := range wrong {
		if codes[36+i] != c.code {
			t.Errorf("step %d of the wrong ones has code %d, want %d", i, codes[36+i], c.code)
		}
	}
	wantTree(t, "behind codes", behind, before)
}
