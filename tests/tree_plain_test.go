package tests

import (
	"slices"
	"strings"

	"loop.example/g00163/impl"
)

// What follows says of a tree what the document says, over the pages sorted by
// where they begin; the program goes from page to page.

// plainOrder are the numbers of the pages that are not Gone, by their Low.
func plainOrder(t impl.Tree) []int {
	var order []int
	for id := range t.Pages {
		if !t.Gone[id] {
			order = append(order, id)
		}
	}
	slices.SortStableFunc(order, func(a, b int) int { return strings.Compare(t.Pages[a].Low, t.Pages[b].Low) })
	return order
}

func plainTreeOK(t impl.Tree) bool {
	if len(t.Pages) == 0 || len(t.Pages) > impl.MaxPages || len(t.Gone) != len(t.Pages) || len(t.Index) > len(t.Pages) {
		return false
	}
	for id, p := range t.Pages {
		if !plainPageOK(p) || t.Gone[id] && !samePage(p, impl.Page{Right: -1}) {
			return false
		}
	}
	order := plainOrder(t)
	if len(order) == 0 || order[0] != 0 || t.Pages[0].Low != "" {
		return false
	}
	for i, id := range order {
		wantHigh, wantRight := "", -1
		if i+1 < len(order) {
			wantHigh, wantRight = t.Pages[order[i+1]].Low, order[i+1]
		}
		high, right := plainBounds(t.Pages[id], len(t.Pages[id].Chain))
		if high != wantHigh || right != wantRight {
			return false
		}
	}
	return plainIndexOK(t, order)
}

func plainIndexOK(t impl.Tree, order []int) bool {
	var places []int
	for _, r := range t.Index {
		place := slices.Index(order, r.Id)
		if place < 0 || t.Pages[r.Id].Low != r.Low || slices.Contains(places, place) {
			return false
		}
		places = append(places, place)
	}
	return len(places) > 0 && places[0] == 0 && slices.IsSorted(places)
}

func posted(t impl.Tree, id int) bool {
	return slices.ContainsFunc(t.Index, func(r impl.Ref) bool { return r.Id == id })
}

// plainDown is the page that has a key, and how far it is behind the last one
// in the Index that does not begin above the key.
func plainDown(t impl.Tree, key string) (int, int) {
	at, hops := 0, 0
	for _, id := range plainOrder(t) {
		if t.Pages[id].Low > key {
			break
		}
		at = id
		hops++
		if posted(t, id) {
			hops = 0
		}
	}
	return at, hops
}

func plainGet(t impl.Tree, key string) (string, int, int) {
	switch {
	case len(key) > impl.MaxText:
		return "", 0, impl.ErrLong
	case !plainTreeOK(t) || !plainKey(key):
		return "", 0, impl.ErrBad
	}
	id, hops := plainDown(t, key)
	value, found := plainFind(t.Pages[id], key)
	if !found {
		return "", hops, impl.ErrNone
	}
	return value, hops, impl.OK
}

func plainTreeScan(t impl.Tree, from, to string) []impl.Entry {
	var list []impl.Entry
	for _, id := range plainOrder(t) {
		for _, e := range plainEntries(t.Pages[id]) {
			if plainWithin(from, to, e.Key) {
				list = append(list, e)
			}
		}
	}
	return list
}

func plainStep(t impl.Tree, a impl.TreeAct) (impl.Tree, int, int) {
	if !plainTreeOK(t) {
		return impl.Tree{}, 0, impl.ErrBad
	}
	next := own(t, 0).(impl.Tree)
	var n, code int
	switch {
	case a.Kind == impl.TrPut || a.Kind == impl.TrDrop:
		n, code = plainChange(&next, a)
	case !slices.Contains(pageKinds, a.Kind):
		code = impl.ErrForm
	case a.Id < 0 || a.Id >= len(t.Pages):
		code = impl.ErrRange
	case t.Gone[a.Id]:
		code = impl.ErrGone
	case a.Kind == impl.TrConsolidate:
		n = len(t.Pages[a.Id].Chain)
		next.Pages[a.Id] = plainTogether(t.Pages[a.Id])
	case a.Kind == impl.TrSplit:
		n, code = plainSplit(&next, a.Id)
	case a.Kind == impl.TrPost:
		n, code = plainPost(&next, a.Id)
	case a.Kind == impl.TrMerge:
		n, code = plainMerge(&next, a.Id)
	}
	if code != impl.OK {
		return impl.Tree{}, 0, code
	}
	return next, n, impl.OK
}

func plainChange(t *impl.Tree, a impl.TreeAct) (int, int) {
	if !plainKey(a.Key) || len(a.Value) > impl.MaxValue {
		return 0, impl.ErrSize
	}
	id, _ := plainDown(*t, a.Key)
	if len(t.Pages[id].Chain) == impl.MaxChain {
		t.Pages[id] = plainTogether(t.Pages[id])
	}
	d := put(a.Key, a.Value)
	if a.Kind == impl.TrDrop {
		d = drop(a.Key)
	}
	t.Pages[id].Chain = append(t.Pages[id].Chain, d)
	if len(plainEntries(t.Pages[id])) > impl.MaxBase {
		return 0, impl.ErrFull
	}
	return id, impl.OK
}

func plainSplit(t *impl.Tree, id int) (int, int) {
	p := &t.Pages[id]
	all := plainEntries(*p)
	if len(all) < 2 {
		return 0, impl.ErrNone
	}
	if len(p.Chain) == impl.MaxChain || len(t.Pages) == impl.MaxPages {
		return 0, impl.ErrFull
	}
	n := len(t.Pages)
	upper := all[len(all)/2:]
	high, right := plainBounds(*p, len(p.Chain))
	p.Chain = append(p.Chain, split(upper[0].Key, n))
	t.Pages = append(t.Pages, impl.Page{Low: upper[0].Key, High: high, Right: right, Base: upper})
	t.Gone = append(t.Gone, false)
	return n, impl.OK
}

func plainPost(t *impl.Tree, id int) (int, int) {
	if posted(*t, id) {
		return 0, impl.ErrState
	}
	t.Index = append(t.Index, impl.Ref{Low: t.Pages[id].Low, Id: id})
	slices.SortFunc(t.Index, func(a, b impl.Ref) int { return strings.Compare(a.Low, b.Low) })
	return slices.IndexFunc(t.Index, func(r impl.Ref) bool { return r.Id == id }), impl.OK
}

func plainMerge(t *impl.Tree, id int) (int, int) {
	order := plainOrder(*t)
	place := slices.Index(order, id)
	if place == len(order)-1 {
		return 0, impl.ErrNone
	}
	next := order[place+1]
	all := append(plainEntries(t.Pages[id]), plainEntries(t.Pages[next])...)
	if len(all) > impl.MaxBase {
		return 0, impl.ErrFull
	}
	high, right := plainBounds(t.Pages[next], len(t.Pages[next].Chain))
	t.Pages[id] = impl.Page{Low: t.Pages[id].Low, High: high, Right: right, Base: all}
	t.Pages[next], t.Gone[next] = impl.Page{Right: -1}, true
	var index []impl.Ref
	for _, r := range t.Index {
		if r.Id != next {
			index = append(index, r)
		}
	}
	t.Index = index
	return next, impl.OK
}
