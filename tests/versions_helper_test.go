package tests

import (
	"slices"
	"strconv"
	"strings"
	"testing"

	"loop.example/g00163/impl"
)

func version(key string, time int, value string) impl.Version {
	return impl.Version{Key: key, Time: time, Value: value}
}

func goneAt(key string, time int) impl.Version {
	return impl.Version{Key: key, Time: time, Gone: true}
}

func versions(list ...impl.Version) []impl.Version {
	return list
}

func fence(from, to string, time int) impl.Fence {
	return impl.Fence{From: from, To: to, Time: time}
}

func fences(list ...impl.Fence) []impl.Fence {
	return list
}

func openAt(time int, writes ...impl.Version) impl.Session {
	return impl.Session{Open: true, Time: time, Writes: writes}
}

// storeOf are Versions with these sessions first, the others closed.
func storeOf(next int, list []impl.Version, fences []impl.Fence, sessions ...impl.Session) impl.Versions {
	all := make([]impl.Session, impl.MaxSessions)
	copy(all, sessions)
	return impl.Versions{Next: next, List: list, Fences: fences, Sessions: all}
}

// busy are Versions with something of everything: session 2 is closed.
func busy() impl.Versions {
	return storeOf(9,
		versions(version("a", 0, "a0"), goneAt("a", 2), version("a", 5, "a5"), version("b", 1, "b1"), version("c", 3, ""), goneAt("c", 7), version("e", 1, "e1")),
		fences(fence("a", "a\x00", 6), fence("c", "", 3), fence("", "b", 1), fence("x", "y", 8), fence("m", "p", 6)),
		openAt(4, version("b", 4, "mine"), goneAt("e", 4), version("f", 4, "")), openAt(8), impl.Session{}, openAt(6, version("n", 6, "n6")))
}

func txAct(kind, session int) impl.TxAct {
	return impl.TxAct{Kind: kind, Session: session}
}

func txBegin(session int) impl.TxAct  { return txAct(impl.TxBegin, session) }
func txCommit(session int) impl.TxAct { return txAct(impl.TxCommit, session) }
func txAbort(session int) impl.TxAct  { return txAct(impl.TxAbort, session) }

func txGet(session int, key string) impl.TxAct {
	return impl.TxAct{Kind: impl.TxGet, Session: session, Key: key}
}

func txScan(session int, from, to string) impl.TxAct {
	return impl.TxAct{Kind: impl.TxScan, Session: session, Key: from, To: to}
}

func txPut(session int, key, value string) impl.TxAct {
	return impl.TxAct{Kind: impl.TxPut, Session: session, Key: key, Value: value}
}

func txDrop(session int, key string) impl.TxAct {
	return impl.TxAct{Kind: impl.TxDrop, Session: session, Key: key}
}

// txKinds are the Kinds of the acts of an open session.
var txKinds = []int{impl.TxGet, impl.TxScan, impl.TxPut, impl.TxDrop, impl.TxCommit, impl.TxAbort}

func alike(a, b any) bool {
	return told([]any{a}) == told([]any{b})
}

func wantVersions(t *testing.T, what string, got, want impl.Versions) {
	t.Helper()
	if !alike(got, want) {
		t.Errorf("%s: %q, want %q", what, shorten(told([]any{got})), shorten(told([]any{want})))
	}
}

// wantTx gives the Versions behind an act with a reply.
func wantTx(t *testing.T, what string, v impl.Versions, a impl.TxAct, want impl.TxReply) impl.Versions {
	t.Helper()
	next, reply, code := impl.TxStep(v, a)
	if code != impl.OK {
		t.Fatalf("%s: TxStep has code %d", what, code)
	}
	if !alike(reply, want) {
		t.Errorf("%s: the reply is %v, want %v", what, reply, want)
	}
	return next
}

// wantIdle is an act that changes nothing.
func wantIdle(t *testing.T, what string, v impl.Versions, a impl.TxAct, want impl.TxReply) {
	t.Helper()
	before := own(v, 0).(impl.Versions)
	wantVersions(t, what, wantTx(t, what, v, a, want), before)
}

func wantNoTx(t *testing.T, what string, v impl.Versions, a impl.TxAct, want int) {
	t.Helper()
	next, reply, code := impl.TxStep(v, a)
	if code != want || !alike(next, impl.Versions{}) || !alike(reply, impl.TxReply{}) {
		t.Errorf("%s: TxStep of Kind %d has code %d and a reply %v, want code %d", what, a.Kind, code, reply, want)
	}
}

func wantPrune(t *testing.T, what string, v impl.Versions, time int, want impl.Versions) {
	t.Helper()
	got, code := impl.Prune(v, time)
	if code != impl.OK {
		t.Errorf("%s: Prune at %d has code %d", what, time, code)
	}
	wantVersions(t, what+" at "+strconv.Itoa(time), got, want)
	if !impl.VersionsOK(got) {
		t.Errorf("%s: what is pruned at %d is not right", what, time)
	}
}

func wantNoPrune(t *testing.T, what string, v impl.Versions, time, want int) {
	t.Helper()
	if got, code := impl.Prune(v, time); code != want || !alike(got, impl.Versions{}) {
		t.Errorf("%s: Prune at %d has code %d, want %d", what, time, code, want)
	}
}

// txRun are the Versions and replies of a run without a code.
func txRun(t *testing.T, acts ...impl.TxAct) (impl.Versions, []impl.TxReply) {
	t.Helper()
	v, replies, code := impl.TxRun(acts)
	if code != impl.OK || len(replies) != len(acts) {
		t.Fatalf("TxRun of %d acts has code %d and %d replies", len(acts), code, len(replies))
	}
	return v, replies
}

func wantReplies(t *testing.T, what string, got []impl.TxReply, want ...impl.TxReply) {
	t.Helper()
	for i := range max(len(got), len(want)) {
		if i >= len(got) || i >= len(want) || !alike(got[i], want[i]) {
			t.Errorf("%s: reply %d is not as it should be: %v, want %v", what, i, got, want)
			return
		}
	}
}

// manyVersions have the keys k10000, k10001 .. and Time 1.
func manyVersions(n int) []impl.Version {
	var all []impl.Version
	for i := range n {
		all = append(all, version("k"+strconv.Itoa(10000+i), 1, strconv.Itoa(i)))
	}
	return all
}

func manyFences(n int) []impl.Fence {
	return slices.Repeat(fences(fence("x", "y", 1)), n)
}

func manyWrites(n, time int) []impl.Version {
	var all []impl.Version
	for i := range n {
		all = append(all, version(numbered(i), time, strconv.Itoa(i)))
	}
	return all
}

type namedList struct {
	name string
	list []impl.Version
}

func rightLists() []namedList {
	return []namedList{
		{"nothing", nil},
		{"an empty one", []impl.Version{}},
		{"Time 0", versions(version("a", 0, "x"))},
		{"Time MaxId", versions(version("a", impl.MaxId, "x"))},
		{"a key of one byte", versions(version("\x00", 1, ""))},
		{"a key of MaxEntry bytes", versions(version(longKey, 1, ""))},
		{"a value of MaxValue bytes", versions(version("a", 1, longValue))},
		{"one that is Gone", versions(goneAt("a", 1))},
		{"a key twice", versions(version("a", 1, ""), version("a", 2, ""))},
		{"times that fall from key to key", versions(version("a", 9, ""), version("b", 3, ""), version("c", 0, ""))},
		{"times alike from key to key", versions(version("a", 3, ""), version("b", 3, ""), version("c", 3, ""))},
		{"a beginning ahead", versions(version("a", 5, ""), version("a\x00", 4, ""), version("aa", 3, ""), version("b", 2, ""))},
		{"bytes order, not runes", versions(version("z", 5, ""), version("\x7f", 4, ""), version("\x80", 3, ""), version("\xc3\xa4", 2, ""), version("\xff", 1, ""))},
		{"Gone between, and last", versions(version("a", 0, "0"), goneAt("a", 1), version("a", 2, "2"), goneAt("a", 3), goneAt("a", 4))},
		{"Gone at once", versions(goneAt("a", 0), goneAt("b", 0), version("b", 1, ""))},
		{"busy", busy().List},
		{"MaxList versions", manyVersions(impl.MaxList)},
	}
}

// wrongLists each have one fault; they are no longer than MaxList.
func wrongLists() []namedList {
	full := manyVersions(impl.MaxList)
	full[impl.MaxList-1] = full[impl.MaxList-2]
	return []namedList{
		{"zero", versions(impl.Version{})},
		{"no key", versions(version("", 1, "x"))},
		{"a key that is too long", versions(version(tooLongKey, 1, "x"))},
		{"a key of far too many bytes", versions(version(strings.Repeat("k", impl.MaxText+1), 1, "x"))},
		{"a value that is too long", versions(version("a", 1, tooLong))},
		{"a value of far too many bytes", versions(version("a", 1, strings.Repeat("v", impl.MaxText+1)))},
		{"Gone with a value", versions(impl.Version{Key: "a", Time: 1, Value: "x", Gone: true})},
		{"Gone with a value, last", versions(version("a", 1, "x"), impl.Version{Key: "a", Time: 2, Value: "x", Gone: true})},
		{"Gone without a key", versions(goneAt("", 1))},
		{"Time -1", versions(version("a", -1, "x"))},
		{"Time -1, Gone", versions(goneAt("a", -1))},
		{"Time MaxId and one more", versions(version("a", impl.MaxId+1, "x"))},
		{"Time MaxId and one more, last", versions(version("a", 1, ""), version("b", impl.MaxId+1, ""))},
		{"keys that fall", versions(version("b", 1, ""), version("a", 2, ""))},
		{"keys that fall, of one Time", versions(version("b", 1, ""), version("a", 1, ""))},
		{"keys that fall at last", versions(version("a", 1, ""), version("c", 1, ""), version("b", 1, ""))},
		{"a key again behind another", versions(version("a", 1, ""), version("b", 1, ""), version("a", 2, ""))},
		{"times that fall within a key", versions(version("a", 2, ""), version("a", 1, ""))},
		{"times that fall at last within a key", versions(version("a", 1, ""), version("b", 1, ""), version("b", 3, ""), version("b", 2, ""))},
		{"two of one Key and Time", versions(version("a", 1, "x"), version("a", 1, "y"))},
		{"two of one Key and Time, all alike", versions(version("a", 1, "x"), version("a", 1, "x"))},
		{"two of one Key and Time, one Gone", versions(goneAt("a", 1), version("a", 1, ""))},
		{"rising by Time, then by Key", versions(version("a", 1, ""), version("b", 1, ""), version("a", 2, ""), version("b", 2, ""))},
		{"a beginning behind", versions(version("aa", 1, ""), version("a", 1, ""))},
		{"runes order, not bytes", versions(version("\xff", 1, ""), version("\xc3\xa4", 1, ""))},
		{"two alike behind many", full},
	}
}
