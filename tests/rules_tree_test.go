package tests

import (
	"math"
	"slices"
	"strings"

	"loop.example/g00163/impl"
)

func givenTrees() []impl.Tree {
	var list []impl.Tree
	for _, c := range slices.Concat(rightTrees(), wrongSizes(), wrongGones(), wrongLinks(), wrongIndexes()) {
		// Of the greatest ones some are enough, and of these no call does more than to count.
		if len(c.Pages) <= impl.MaxPages+1 {
			list = append(list, c.Tree)
		}
	}
	for _, n := range []int{math.MinInt, -1, math.MaxInt} {
		list = append(list, impl.Tree{
			Pages: []impl.Page{{High: "b", Right: n}, {Right: -1, Chain: chain(split("c", n))}},
			Gone:  []bool{false, false},
			Index: []impl.Ref{{Low: "", Id: n}},
		})
	}
	return list
}

// givenTreeActs are steps of each Kind, right ones and wrong ones.
func givenTreeActs() []impl.TreeAct {
	var list []impl.TreeAct
	for _, key := range []string{"a", "e", "k1010", numbered(31), "zz", longKey, "", tooLongKey, strings.Repeat("k", impl.MaxText+1)} {
		list = append(list, treePut(key, "x"), treeDrop(key))
	}
	list = append(list, treePut("a", ""), treePut("b", tooLong), impl.TreeAct{Kind: impl.TrDrop, Key: "b", Value: strings.Repeat("v", impl.MaxText+1)})
	for kind := -1; kind <= 7; kind++ {
		for _, id := range []int{math.MinInt, -1, 0, 1, 2, 3, 4, impl.MaxPages - 1, impl.MaxPages, math.MaxInt} {
			if slices.Contains(pageKinds, kind) || id == 0 || id == math.MaxInt {
				list = append(list, treeAct(kind, id))
			}
		}
	}
	return list
}

func givenBounds() [][2]string {
	return [][2]string{
		{"", ""}, {"a", ""}, {"", "n"}, {"b", "n"}, {"n", "b"}, {"b", "b"}, {"d", "m"}, {"zz", ""}, {longKey, tooLongKey},
		{strings.Repeat("b", impl.MaxText), ""}, {strings.Repeat("b", impl.MaxText+1), ""}, {"", strings.Repeat("b", impl.MaxText+1)},
	}
}

// givenRuns are runs with steps of each Kind, of all lengths.
func givenRuns() [][]impl.TreeAct {
	var full, busy []impl.TreeAct
	for i := range 40 {
		full = append(full, treePut(numbered(i), "x"))
	}
	for i := range 8 {
		full = append(full, treeAct(impl.TrConsolidate, i), treeAct(impl.TrSplit, i), treeAct(impl.TrPost, i))
	}
	for i := range 5 {
		full = append(full, treeAct(impl.TrMerge, i), treeDrop(numbered(i)))
	}
	for i := range impl.MaxSteps {
		busy = append(busy, treePut(numbered(i*7%impl.MaxSteps), "x"))
		if i%3 == 0 {
			busy = append(busy, treeAct(impl.TrSplit, i/9))
		}
	}
	return [][]impl.TreeAct{
		nil,
		{},
		{{}},
		{treePut("a", "1")},
		{treePut("a", "1"), treePut("b", "2"), treeAct(impl.TrSplit, 0)},
		{treePut("a", "1"), treePut("b", "2"), treeAct(impl.TrSplit, 0), treeAct(impl.TrMerge, 0)},
		givenTreeActs(),
		full,
		busy[:impl.MaxSteps],
		busy[:impl.MaxSteps+1],
		slices.Repeat([]impl.TreeAct{treeDrop("a")}, impl.MaxList),
		slices.Repeat([]impl.TreeAct{treeDrop("a")}, impl.MaxList+1),
	}
}

func treeCalls() []call {
	trees := givenTrees()
	right := len(rightTrees())
	var gets, scans, steps [][]any
	for i, tree := range trees {
		// Of those that are not right, and of the greatest ones, each way to ask would take too much time.
		all := i < right && len(tree.Pages) < impl.MaxPages
		for k, key := range append(givenKeys(), numbered(3)+"10") {
			if all || (i+k)%5 == 0 {
				gets = append(gets, []any{tree, key})
			}
		}
		for k, b := range givenBounds() {
			if all || (i+k)%5 == 0 {
				scans = append(scans, []any{tree, b[0], b[1]})
			}
		}
		for k, a := range givenTreeActs() {
			if all || i < right && k%3 == 0 || (i+k)%11 == 0 {
				steps = append(steps, []any{tree, a})
			}
		}
	}
	return slices.Concat(
		plain("NewTree", impl.NewTree, [][]any{{}}),
		plain("TreeOK", impl.TreeOK, each(trees)),
		codedBut(impl.ErrNone, "TreeGet", impl.TreeGet, gets),
		coded("TreeScan", impl.TreeScan, scans),
		coded("TreeStep", impl.TreeStep, steps),
		coded("TreeRun", impl.TreeRun, each(givenRuns())),
	)
}
