package tests

import (
	"bytes"
	"math"
	"slices"
	"strings"

	"loop.example/g00163/impl"
)

func givenCommits() [][]impl.Version {
	list := givenLists()
	return append(list, manyWrites(impl.MaxWrites, 3), manyWrites(impl.MaxWrites+1, 3), versions(version("a", 1, ""), version("b", 2, "")), versions(goneAt("a", 4), version("b", 4, longValue)))
}

// givenCommitBytes end anywhere within a commit, or have something that none has.
func givenCommitBytes() [][]byte {
	list := [][]byte{nil, {}, {1}, {2, 1}, {1, 255}, {1, 1, 'a', 255}, make([]byte, impl.MaxText), make([]byte, impl.MaxText+1), bytes.Repeat([]byte{1}, impl.MaxText), bytes.Repeat([]byte("\x01\x01a\x00"), impl.MaxText/4)}
	few := plainBytes(versions(version("a", 1, "xy"), goneAt("b", 1), version("cc", 1, "")))
	for end := range len(few) + 1 {
		list = append(list, few[:end])
	}
	for at := range few {
		for _, turn := range []byte{1, 3, 0x80} {
			turned := bytes.Clone(few)
			turned[at] ^= turn
			list = append(list, turned)
		}
	}
	return append(list, plainBytes(manyWrites(impl.MaxWrites, 1)), plainBytes(manyWrites(impl.MaxWrites+1, 1)))
}

// logDevices are devices with a log that is held, that waits, that ends early.
func logDevices() []impl.Flash {
	log := []impl.Image{commitOf(4, "a=1", "b"), commitOf(2, "a=0", "c=3"), commitOf(7), commitOf(impl.MaxId-1, longKey+"="+longValue)}
	raw := rawOf(log...)
	list := []impl.Flash{
		holding(raw...),
		{Waiting: waitingOf(0, raw)},
		{Held: joined(raw)[:32], Waiting: waitingOf(2, joined(raw)[32:])},
		holding(raw[:len(raw)-3]...),
		holding(rawOf(commitOf(1, "b=1", "a=1"))...),
	}
	for _, bad := range []impl.Image{goneImage(5), hereImage(5, "x"), commitOf(0, "z=1"), commitOf(impl.MaxId, "z=1"), commitOf(4, "z=1")} {
		list = append(list, holding(rawOf(log[0], bad, log[1])...))
	}
	return list
}

// givenEngineActs are runs with acts of each Kind, of all lengths.
func givenEngineActs() [][]impl.EngineAct {
	next := numbers(103)
	var numbers []impl.EngineAct
	for _, n := range []int{math.MinInt, -1, 0, 1, 16, 17, math.MaxInt} {
		for kind := -1; kind <= 5; kind++ {
			numbers = append(numbers, impl.EngineAct{Kind: kind, Torn: n, Tx: impl.TxAct{Kind: impl.TxBegin, Session: n}, Keep: flags(3, true)})
			numbers = append(numbers, impl.EngineAct{Kind: kind, Torn: 3, Tx: impl.TxAct{Kind: n, Session: 1, Key: "k"}, Keep: flags(1, true)})
		}
	}
	text := strings.Repeat("t", impl.MaxText+1)
	two := script(commits(0, "a=1"), commits(1, "b=2", "c"))
	looks := script(txBegin(2), txPut(2, "d", "4"), txScan(2, "", ""), txScan(2, "b", ""), txGet(2, "a"), txBegin(3), txDrop(3, "a"))
	list := [][]impl.EngineAct{
		nil,
		{},
		{{}},
		two,
		script(two, looks),
		script(two, enSync(), looks),
		script(two, enSync(), two, looks),
		script(two, looks, enCrash(3, true, false, true)),
		script(two, enSync(), two, enCrash(9, flags(9, true)...), looks),
		script(two, enClean(), looks),
		script(two, two, enClean(), two),
		script(fullBut(0), commits(0), enClean(), looks),
		script(fullBut(3), txBegin(0), txAbort(0), enClean()),
		script(txBegin(0), greatWrites(0, "a"), txScan(0, "", ""), txCommit(0), txCommit(0)),
		numbers,
		script(enTx(impl.TxAct{Kind: impl.TxPut, Key: text[1:], To: text[1:], Value: text[1:]}), enCrash(16, flags(impl.MaxList, true)...)),
		script(two, enTx(impl.TxAct{To: text})),
		script(two, enCrash(0, flags(impl.MaxList+1, true)...)),
		slices.Repeat(two[:1], impl.MaxScript+1),
		slices.Repeat(two[:1], impl.MaxList+1),
	}
	for range 12 {
		list = append(list, someScript(next, impl.MaxScript))
	}
	return list
}

func givenEntries() [][]impl.Entry {
	return [][]impl.Entry{
		nil,
		{},
		{{}},
		entriesOf("a=1"),
		entriesOf("c=1", "b=2", "a=3", "b=4"),
		manyEntries(12),
		manyEntries(13),
		manyEntries(33),
		reversed(manyEntries(60)),
		shuffled(manyEntries(100), 7),
		manyEntries(mostRising),
		manyEntries(mostRising + 1),
		append(manyEntries(5), impl.Entry{Key: tooLongKey}),
		append(manyEntries(5), impl.Entry{Key: "a", Value: tooLong}),
		{{Key: longKey, Value: longValue}, {Key: "\x00"}},
		slices.Repeat(entriesOf("a=1", "b=2"), impl.MaxList/2),
		slices.Repeat(entriesOf("a=1"), impl.MaxList+1),
	}
}

func engineCalls() []call {
	var reads [][]any
	for i, b := range givenCommitBytes() {
		for k, time := range []int{math.MinInt, -1, 0, 1, impl.MaxId, impl.MaxId + 1, math.MaxInt} {
			if len(b) < 999 || (i+k)%3 == 0 {
				reads = append(reads, []any{b, time})
			}
		}
	}
	devices := slices.Concat(logDevices(), imageDevices(), rightDevices(), wrongDevices())
	return slices.Concat(
		coded("CommitBytes", impl.CommitBytes, each(givenCommits())),
		coded("ReadCommit", impl.ReadCommit, reads),
		coded("Recover", impl.Recover, each(devices)),
		coded("EngineRun", impl.EngineRun, each(givenEngineActs())),
		coded("BuildTree", impl.BuildTree, each(givenEntries())),
	)
}
