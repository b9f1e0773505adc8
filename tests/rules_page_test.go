package tests

import (
	"bytes"
	"math"
	"slices"
	"strings"

	"loop.example/g00163/impl"
)

func givenPages() []impl.Page {
	var list []impl.Page
	for _, c := range slices.Concat(rightPages(), wrongPages()) {
		list = append(list, c.Page)
	}
	for _, n := range []int{math.MinInt, -1, 0, math.MaxInt} {
		list = append(list, impl.Page{
			Low: "b", High: "m", Right: n, Base: entriesOf("c=1"),
			Chain: chain(impl.Delta{Kind: n, Key: "c", To: n}, impl.Delta{Kind: impl.DeSplit, Key: "d", To: n}),
		})
	}
	return list
}

func givenDeltas() []impl.Delta {
	list := chain(put("c", "x"), put("c", ""), put("f", longValue), put("z", ""), drop("c"), drop("d"), drop("z"), split("c", 1), split("f", 0), split("l", impl.MaxId), split("z", 4))
	for _, c := range wrongDeltas() {
		list = append(list, c.Delta)
	}
	return list
}

func givenKeys() []string {
	return []string{"", "a", "b", "c", "d", "g", "m", "z", "\xff", "k110", longKey, tooLongKey, strings.Repeat("k", impl.MaxText), strings.Repeat("k", impl.MaxText+1)}
}

// givenPageBytes end anywhere within a page, or have something that no page has.
func givenPageBytes() [][]byte {
	list := [][]byte{nil, {}, make([]byte, 6), make([]byte, impl.MaxText), make([]byte, impl.MaxText+1), bytes.Repeat([]byte{255}, impl.MaxText), bytes.Repeat([]byte{1}, 999)}
	b := rawPage(middle())
	for end := range len(b) + 1 {
		list = append(list, b[:end])
	}
	for at := range b {
		for _, turn := range []byte{1, 2, 0x80, 0xFF} {
			turned := bytes.Clone(b)
			turned[at] ^= turn
			list = append(list, turned)
		}
	}
	for _, c := range slices.Concat(rightPages(), wrongPages()) {
		if fits(c.Page) {
			list = append(list, rawPage(c.Page))
		}
	}
	return list
}

func pageCalls() []call {
	pages := givenPages()
	var finds, extends [][]any
	for i, p := range pages {
		for k, key := range givenKeys() {
			// Of the greatest ones some are enough.
			if len(p.Base)+len(p.Chain) < 999 && len(key) < 999 || (i+k)%9 == 0 {
				finds = append(finds, []any{p, key})
			}
		}
		for k, d := range givenDeltas() {
			if len(p.Base)+len(p.Chain) < 99 && (i < 60 || (i+k)%9 == 0) || (i+k)%19 == 0 {
				extends = append(extends, []any{p, d})
			}
		}
	}
	return slices.Concat(
		plain("PageOK", impl.PageOK, each(pages)),
		coded("Bounds", impl.Bounds, each(pages)),
		codedBut(impl.ErrGone, "Find", impl.Find, finds),
		coded("Extend", impl.Extend, extends),
		coded("Consolidate", impl.Consolidate, each(pages)),
		coded("PageBytes", impl.PageBytes, each(pages)),
		coded("ReadPage", impl.ReadPage, each(givenPageBytes())),
	)
}
