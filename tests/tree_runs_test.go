package tests

import (
	"maps"
	"slices"
	"strconv"
	"testing"

	"loop.example/g00163/impl"
)

// treeKey is one of some hundred keys, so that pages fill up and keys meet again.
func treeKey(next func() uint64) string {
	return "k" + strconv.Itoa(int(100+next()%300))
}

// someTreeAct is mostly a step that may be done.
func someTreeAct(next func() uint64, tree impl.Tree) impl.TreeAct {
	id := int(next() % uint64(len(tree.Pages)))
	switch n := next() % 100; {
	case n < 50:
		return treePut(treeKey(next), strconv.Itoa(int(next()%1000)))
	case n < 60:
		return treeDrop(treeKey(next))
	case n < 67:
		return treeAct(impl.TrConsolidate, id)
	case n < 78:
		return treeAct(impl.TrSplit, id)
	case n < 86:
		return treeAct(impl.TrPost, id)
	case n < 94:
		return treeAct(impl.TrMerge, id)
	case n < 97:
		return impl.TreeAct{Kind: int(next()%9) - 1, Id: int(next()%40) - 2, Key: someKey(next), Value: someValue(next)}
	}
	return impl.TreeAct{Kind: 1 + int(next()%2), Key: someKey(next), Value: someValue(next)}
}

// remember does to a plain map what a step that had no code put or dropped.
func remember(kept map[string]string, a impl.TreeAct) {
	switch a.Kind {
	case impl.TrPut:
		kept[a.Key] = a.Value
	case impl.TrDrop:
		delete(kept, a.Key)
	}
}

func entriesIn(kept map[string]string) []impl.Entry {
	var list []impl.Entry
	for _, key := range slices.Sorted(maps.Keys(kept)) {
		list = append(list, impl.Entry{Key: key, Value: kept[key]})
	}
	return list
}

// askTree holds what is got and scanned against what was put last.
func askTree(t *testing.T, next func() uint64, tree impl.Tree, kept map[string]string) {
	t.Helper()
	all := entriesIn(kept)
	wantTreeScan(t, "all", tree, "", "", all)
	for range 6 {
		from, to := treeKey(next), treeKey(next)
		if next()%4 == 0 {
			to = ""
		}
		var want []impl.Entry
		for _, e := range all {
			if e.Key >= from && (to == "" || e.Key < to) {
				want = append(want, e)
			}
		}
		wantTreeScan(t, "some", tree, from, to, want)
	}
	for i := range 300 {
		key := numbered(i)
		_, hops := plainDown(tree, key)
		if value, ok := kept[key]; ok {
			wantGet(t, "kept", tree, key, value, hops, impl.OK)
		} else {
			wantGet(t, "not kept", tree, key, "", hops, impl.ErrNone)
		}
	}
}

// Whatever is split, posted and merged: each step does what the document says,
// and what was put last is there.
func TestRunsOfSteps(t *testing.T) {
	next := numbers(23)
	type seenStep struct{ kind, code int }
	seen := map[seenStep]int{}
	for range 20 {
		tree := impl.NewTree()
		kept := map[string]string{}
		for i := range 400 {
			a := someTreeAct(next, tree)
			want, wantTold, wantCode := plainStep(tree, a)
			got, n, code := impl.TreeStep(tree, a)
			if n != wantTold || code != wantCode {
				t.Fatalf("a step of Kind %d at %q or %d tells %d with code %d, want %d with code %d", a.Kind, a.Key, a.Id, n, code, wantTold, wantCode)
			}
			wantTree(t, "behind a step", got, want)
			seen[seenStep{a.Kind, code}]++
			if code == impl.OK {
				tree = got
				remember(kept, a)
			}
			if i%40 == 39 {
				askTree(t, next, tree, kept)
			}
		}
		if !impl.TreeOK(tree) {
			t.Fatal("the tree is not right behind its steps")
		}
	}
	for _, c := range []seenStep{
		{impl.TrPut, impl.OK}, {impl.TrPut, impl.ErrFull}, {impl.TrPut, impl.ErrSize}, {impl.TrDrop, impl.OK}, {impl.TrDrop, impl.ErrSize},
		{impl.TrConsolidate, impl.OK}, {impl.TrConsolidate, impl.ErrGone},
		{impl.TrSplit, impl.OK}, {impl.TrSplit, impl.ErrNone}, {impl.TrSplit, impl.ErrFull}, {impl.TrSplit, impl.ErrGone},
		{impl.TrPost, impl.OK}, {impl.TrPost, impl.ErrState}, {impl.TrPost, impl.ErrGone},
		{impl.TrMerge, impl.OK}, {impl.TrMerge, impl.ErrNone}, {impl.TrMerge, impl.ErrFull}, {impl.TrMerge, impl.ErrGone},
	} {
		if seen[c] < 5 {
			t.Errorf("Kind %d with code %d was seen %d times", c.kind, c.code, seen[c])
		}
	}
}

// A run is its steps one behind the other, those with a code left out.
func TestTreeRunIsItsSteps(t *testing.T) {
	next := numbers(29)
	for range 60 {
		tree := impl.NewTree()
		kept := map[string]string{}
		var acts []impl.TreeAct
		var want []int
		for range 1 + next()%impl.MaxSteps {
			a := someTreeAct(next, tree)
			behind, _, code := plainStep(tree, a)
			if code == impl.OK {
				tree = behind
				remember(kept, a)
			}
			acts = append(acts, a)
			want = append(want, code)
		}
		got, codes, code := impl.TreeRun(acts)
		if code != impl.OK || !slices.Equal(codes, want) {
			t.Fatalf("codes %v, code %d, want %v", codes, code, want)
		}
		wantTree(t, "behind a run", got, tree)
		askTree(t, next, got, kept)
	}
}

// grow puts keys as a tree grows: a full page is put together and split, the
// new one posted now and then.
func grow(t *testing.T, post func(page int) bool, keys []string) (impl.Tree, map[string]string) {
	tree := impl.NewTree()
	kept := map[string]string{}
	for _, key := range keys {
		a := treePut(key, "v"+key)
		behind, _, code := impl.TreeStep(tree, a)
		if code == impl.ErrFull {
			id, _ := plainDown(tree, key)
			tree = stepped(t, tree, treeAct(impl.TrConsolidate, id), treeAct(impl.TrSplit, id))
			if last := len(tree.Pages) - 1; post(last) {
				tree = stepped(t, tree, treeAct(impl.TrPost, last))
			}
			tree = stepped(t, tree, a)
		} else {
			tree = behind
		}
		kept[key] = a.Value
	}
	return tree, kept
}

func TestTreesThatGrowAndShrink(t *testing.T) {
	next := numbers(31)
	var mixed []string
	for i := range 300 {
		mixed = append(mixed, numbered(i*7%300))
	}
	for name, post := range map[string]func(int) bool{
		"posted":     func(int) bool { return true },
		"not posted": func(int) bool { return false },
		"some":       func(page int) bool { return page%2 == 0 },
	} {
		tree, kept := grow(t, post, mixed)
		if len(tree.Pages) < 10 {
			t.Errorf("%s: only %d pages", name, len(tree.Pages))
		}
		askTree(t, next, tree, kept)
		// Most keys go; then all pages are merged into page 0.
		for i := range 300 {
			if i%10 != 0 {
				tree = stepped(t, tree, treeDrop(numbered(i)))
				delete(kept, numbered(i))
			}
		}
		askTree(t, next, tree, kept)
		for _, right := range plainOrder(tree)[1:] {
			tree = wantStep(t, name, tree, treeAct(impl.TrMerge, 0), right)
			askTree(t, next, tree, kept)
		}
		wantPage(t, name, tree.Pages[0], whole(entriesIn(kept)))
		if len(tree.Index) != 1 || slices.Index(tree.Gone[1:], false) >= 0 {
			t.Errorf("%s: more than one page is left", name)
		}
	}
}

// turn changes one thing of a tree, mostly so that it is not right any more.
func turn(next func() uint64, t *impl.Tree) {
	id := int(next() % uint64(len(t.Pages)))
	other := int(next() % uint64(len(t.Pages)))
	ref := int(next() % uint64(len(t.Index)))
	number := []int{-1, 0, other, len(t.Pages), impl.MaxId}[next()%5]
	switch next() % 12 {
	case 0:
		t.Pages[id].Low = t.Pages[other].Low
	case 1:
		t.Pages[id].High, t.Pages[id].Right = t.Pages[other].High, t.Pages[other].Right
	case 2:
		t.Pages[id].Right = number
	case 3:
		t.Pages[id], t.Pages[other] = t.Pages[other], t.Pages[id]
	case 4:
		t.Gone[id] = !t.Gone[id]
	case 5:
		t.Index[ref].Id = number
	case 6:
		t.Index[ref].Low = t.Pages[other].Low
	case 7:
		t.Index = slices.Delete(t.Index, ref, ref+1)
	case 8:
		t.Index = slices.Insert(t.Index, ref, impl.Ref{Low: t.Pages[other].Low, Id: other})
	case 9:
		t.Pages[id].Chain = t.Pages[id].Chain[:len(t.Pages[id].Chain)/2]
	case 10:
		for i := range t.Pages[id].Chain {
			if t.Pages[id].Chain[i].Kind == impl.DeSplit {
				t.Pages[id].Chain[i].To = number
			}
		}
	case 11:
		t.Pages, t.Gone = append(t.Pages, t.Pages[id]), append(t.Gone, t.Gone[id])
	}
}

func TestTurnedTreesAreRightAsTheDocumentSays(t *testing.T) {
	next := numbers(37)
	seen := map[bool]int{}
	for range 40 {
		tree := impl.NewTree()
		for range 60 + next()%200 {
			if behind, _, code := impl.TreeStep(tree, someTreeAct(next, tree)); code == impl.OK {
				tree = behind
			}
		}
		for range 60 {
			turned := own(tree, 0).(impl.Tree)
			turn(next, &turned)
			ok := plainTreeOK(turned)
			seen[ok]++
			if impl.TreeOK(turned) != ok {
				t.Fatalf("TreeOK is not %v of %q", ok, told([]any{turned}))
			}
			a := someTreeAct(next, tree)
			want, wantTold, wantCode := plainStep(turned, a)
			got, n, code := impl.TreeStep(turned, a)
			if n != wantTold || code != wantCode || !sameTree(got, want) {
				t.Fatalf("a step of Kind %d tells %d with code %d, want %d with code %d", a.Kind, n, code, wantTold, wantCode)
			}
			key := treeKey(next)
			value, hops, wantCode := plainGet(turned, key)
			wantGet(t, "turned", turned, key, value, hops, wantCode)
		}
	}
	if seen[true] < 100 || seen[false] < 1000 {
		t.Errorf("%d trees are right, %d are not", seen[true], seen[false])
	}
}
