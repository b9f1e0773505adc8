package tests

import (
	"math"
	"slices"
	"strings"

	"loop.example/g00163/impl"
)

func givenLists() [][]impl.Version {
	var list [][]impl.Version
	for _, c := range slices.Concat(rightLists(), wrongLists()) {
		list = append(list, c.list)
	}
	for _, n := range []int{math.MinInt, math.MaxInt} {
		list = append(list, versions(version("a", n, "x")), versions(version("a", 1, "x"), goneAt("a", n)))
	}
	return append(list, manyVersions(impl.MaxList+1))
}

func givenVersions() []impl.Versions {
	var list []impl.Versions
	for _, c := range slices.Concat(rightVersions(), wrongVersions()) {
		list = append(list, c.Versions)
	}
	for _, n := range []int{math.MinInt, -1, math.MaxInt} {
		list = append(list, storeOf(n, versions(version("a", n, "x")), fences(fence("a", "b", n)), openAt(n, version("a", n, "x")), impl.Session{Time: n}))
	}
	return list
}

func givenTimes() []int {
	return []int{math.MinInt, -1, 0, 1, 3, 4, 8, 9, impl.MaxId, math.MaxInt}
}

// givenTxActs are acts of each Kind, right ones and wrong ones.
func givenTxActs() []impl.TxAct {
	var list []impl.TxAct
	for kind := -1; kind <= 8; kind++ {
		for _, session := range []int{math.MinInt, -1, 0, 1, 2, 3, 4, math.MaxInt} {
			list = append(list, impl.TxAct{Kind: kind, Session: session, Key: "b", Value: "x"}, txAct(kind, session))
		}
	}
	for _, key := range []string{"a", "e", "k", longKey, tooLongKey, strings.Repeat("k", impl.MaxText), strings.Repeat("k", impl.MaxText+1)} {
		list = append(list, txGet(0, key), txPut(0, key, longValue), txDrop(3, key), txScan(0, key, ""), txScan(1, "", key))
	}
	return append(list, txPut(0, "a", tooLong), txScan(0, "f", "b"), impl.TxAct{Kind: impl.TxDrop, Key: "b", Value: "x"})
}

// givenScripts are runs with acts of each Kind, of all lengths.
func givenScripts() [][]impl.TxAct {
	next := numbers(61)
	var some []impl.TxAct
	v := storeOf(1, nil, nil)
	for range impl.MaxScript + 1 {
		a := someTxAct(next, v)
		some = append(some, a)
		v, _, _ = plainTxStep(v, a)
	}
	return [][]impl.TxAct{
		nil,
		{},
		{{}},
		{txBegin(0)},
		{txBegin(0), txPut(0, "a", "1"), txScan(0, "", ""), txScan(0, "", ""), txCommit(0)},
		{txBegin(0), txPut(0, "a", "1"), txPut(0, "b", "1"), txBegin(1), txPut(1, "a", "1"), txBegin(2), txBegin(3), txDrop(3, "a")},
		{txBegin(0), txPut(0, "a", "1"), txBegin(1), txGet(1, "a"), txCommit(0), txScan(1, "", "")},
		givenTxActs()[:impl.MaxScript],
		givenTxActs()[len(givenTxActs())-impl.MaxScript:],
		some[:60],
		some[:impl.MaxScript],
		some,
		slices.Repeat(some[:1], impl.MaxList),
		slices.Repeat(some[:1], impl.MaxList+1),
	}
}

// isGreat tells whether to go through all of it takes its time.
func isGreat(v impl.Versions) bool {
	size := len(v.List) + len(v.Fences) + len(v.Sessions)
	for _, s := range v.Sessions {
		size += len(s.Writes)
	}
	return size > 999
}

func versionCalls() []call {
	var ats, entries, steps, prunes [][]any
	for i, list := range givenLists() {
		for k, time := range givenTimes() {
			// Of the greatest ones some are enough.
			if len(list) > 999 && (i+k)%7 > 0 {
				continue
			}
			entries = append(entries, []any{list, time})
			for n, key := range givenKeys() {
				if len(list) < 999 && len(key) < 999 && (i+k+n)%3 == 0 || (i+k+n)%7 == 0 {
					ats = append(ats, []any{list, key, time})
				}
			}
		}
	}
	all, right := givenVersions(), len(rightVersions())
	for i, v := range all {
		great := isGreat(v)
		for k, a := range givenTxActs() {
			long := max(len(a.Key), len(a.To), len(a.Value)) > 999
			if !great && !long && i < right || !great && (i+k)%37 == 0 || (i+k)%101 == 0 {
				steps = append(steps, []any{v, a})
			}
		}
		for k, time := range givenTimes() {
			if !great || (i+k)%7 == 0 {
				prunes = append(prunes, []any{v, time})
			}
		}
	}
	return slices.Concat(
		coded("VersionAt", impl.VersionAt, ats),
		coded("EntriesAt", impl.EntriesAt, entries),
		plain("VersionsOK", impl.VersionsOK, each(all)),
		coded("TxStep", impl.TxStep, steps),
		coded("TxRun", impl.TxRun, each(givenScripts())),
		coded("Prune", impl.Prune, prunes),
	)
}
