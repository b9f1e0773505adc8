package tests

import (
	"math"
	"slices"
	"strings"
	"testing"

	"loop.example/g00163/impl"
)

func justCode(n int) impl.TxReply {
	return impl.TxReply{Code: n}
}

// justTime is a reply with a Time alone.
func justTime(time int) impl.TxReply {
	return impl.TxReply{Time: time}
}

// codeAt is a code of an act of an open session.
func codeAt(n, time int) impl.TxReply {
	return impl.TxReply{Code: n, Time: time}
}

func valueAt(value string, time int) impl.TxReply {
	return impl.TxReply{Time: time, Value: value}
}

func listAt(time int, list ...string) impl.TxReply {
	return impl.TxReply{Time: time, List: entriesOf(list...)}
}

// ErrForm of a Kind, then ErrRange of a session, whatever else is wrong.
func TestKindsAndSessionsThatAreNone(t *testing.T) {
	full := storeOf(impl.MaxId, nil, nil)
	for _, v := range []impl.Versions{storeOf(1, nil, nil), busy(), full} {
		for _, session := range []int{math.MinInt, -1, 0, 1, 2, 3, 4, math.MaxInt} {
			for _, kind := range []int{math.MinInt, -7, -1, 0, 8, 9, 255, 257, math.MaxInt} {
				wantIdle(t, "no Kind", v, txAct(kind, session), justCode(impl.ErrForm))
				wantIdle(t, "no Kind, long texts", v, longAct(kind, session), justCode(impl.ErrForm))
			}
			if session >= 0 && session <= 3 {
				continue
			}
			for kind := impl.TxBegin; kind <= impl.TxAbort; kind++ {
				wantIdle(t, "no session", v, txAct(kind, session), justCode(impl.ErrRange))
				wantIdle(t, "no session, long texts", v, longAct(kind, session), justCode(impl.ErrRange))
			}
		}
	}
}

func TestBegin(t *testing.T) {
	for session := range impl.MaxSessions {
		for _, next := range []int{1, 2, 500, impl.MaxId - 1} {
			v := storeOf(next, versions(version("a", 0, "x")), nil)
			want := storeOf(next+1, v.List, nil)
			want.Sessions[session] = openAt(next)
			a := txBegin(session)
			wantVersions(t, "a begin", wantTx(t, "a begin", v, a, justTime(next)), want)
			// No text of it is looked at.
			wantVersions(t, "a begin with texts", wantTx(t, "a begin with texts", v, longAct(impl.TxBegin, session), justTime(next)), want)
			wantIdle(t, "a begin of an open one", want, a, justCode(impl.ErrState))
		}
		wantIdle(t, "a begin at MaxId", storeOf(impl.MaxId, nil, nil), txBegin(session), justCode(impl.ErrFull))
	}
	open := storeOf(impl.MaxId, nil, nil, openAt(1))
	wantIdle(t, "a begin of an open one at MaxId", open, txBegin(0), justCode(impl.ErrState))
	wantIdle(t, "a begin of another one at MaxId", open, txBegin(1), justCode(impl.ErrFull))
	next := wantTx(t, "between open ones", busy(), txBegin(2), justTime(9))
	want := busy()
	want.Next, want.Sessions[2] = 10, openAt(9)
	wantVersions(t, "between open ones", next, want)
}

func TestActsOfASessionThatIsNotOpen(t *testing.T) {
	for _, v := range []impl.Versions{storeOf(1, nil, nil), busy(), storeOf(9, nil, manyFences(impl.MaxList), openAt(3))} {
		for _, kind := range txKinds {
			wantIdle(t, "not open", v, txAct(kind, 2), justCode(impl.ErrClosed))
			wantIdle(t, "not open, a key", v, impl.TxAct{Kind: kind, Session: 2, Key: "a"}, justCode(impl.ErrClosed))
			wantIdle(t, "not open, long texts", v, longAct(kind, 2), justCode(impl.ErrClosed))
		}
	}
}

// Texts of MaxText bytes are taken, one more byte is ErrLong ahead of all codes.
func TestTextsOfAnAct(t *testing.T) {
	for kind := -1; kind <= 8; kind++ {
		for _, session := range []int{-1, 0, 1, 2, 4} {
			for _, a := range overlongActs(kind, session) {
				wantNoTx(t, "too long", busy(), a, impl.ErrLong)
				wantNoTx(t, "too long, and not right", impl.Versions{}, a, impl.ErrLong)
			}
			for _, a := range overlongActs(kind, session) {
				cut := func(text string) string { return text[:min(len(text), impl.MaxText)] }
				a.Key, a.To, a.Value = cut(a.Key), cut(a.To), cut(a.Value)
				want, reply, _ := plainTxStep(busy(), a)
				wantVersions(t, "MaxText bytes", wantTx(t, "MaxText bytes", busy(), a, reply), want)
			}
		}
	}
}

func TestSizesOfKeysAndValues(t *testing.T) {
	keys := []struct {
		key string
		ok  bool
	}{{"", false}, {"k", true}, {longKey, true}, {tooLongKey, false}, {strings.Repeat("k", impl.MaxText), false}}
	values := []struct {
		value string
		ok    bool
	}{{"", true}, {"v", true}, {longValue, true}, {tooLong, false}, {strings.Repeat("v", impl.MaxText), false}}
	v := storeOf(9, nil, nil, openAt(3))
	fullUp := storeOf(9, nil, manyFences(impl.MaxList), openAt(3, manyWrites(impl.MaxWrites, 3)...))
	for _, k := range keys {
		for _, x := range values {
			for _, kind := range []int{impl.TxGet, impl.TxPut, impl.TxDrop} {
				// To is no text of these.
				for _, to := range []string{"", strings.Repeat("t", impl.MaxText)} {
					a := impl.TxAct{Kind: kind, Key: k.key, To: to, Value: x.value}
					if !k.ok || !x.ok {
						wantIdle(t, "sizes", v, a, codeAt(impl.ErrSize, 3))
						wantIdle(t, "sizes, without room", fullUp, a, codeAt(impl.ErrSize, 3))
						continue
					}
					want := storeOf(9, nil, nil, openAt(3))
					reply := justTime(3)
					switch kind {
					case impl.TxGet:
						want.Fences = fences(fence(k.key, k.key+"\x00", 3))
						reply = codeAt(impl.ErrNone, 3)
					case impl.TxPut:
						want.Sessions[0].Writes = versions(version(k.key, 3, x.value))
					case impl.TxDrop:
						want.Sessions[0].Writes = versions(goneAt(k.key, 3))
					}
					wantVersions(t, "sizes", wantTx(t, "sizes", v, a, reply), want)
				}
			}
		}
	}
}

func TestSizesOfBounds(t *testing.T) {
	v := storeOf(9, nil, nil, openAt(3))
	bounds := []string{"", "k", longKey, tooLongKey, strings.Repeat("k", impl.MaxText)}
	for i, from := range bounds {
		for k, to := range bounds {
			// Value is no text of a scan.
			for _, value := range []string{"", tooLong, strings.Repeat("v", impl.MaxText)} {
				a := impl.TxAct{Kind: impl.TxScan, Key: from, To: to, Value: value}
				if i > 2 || k > 2 {
					wantIdle(t, "bounds", v, a, codeAt(impl.ErrSize, 3))
					wantIdle(t, "bounds, without room", storeOf(9, nil, manyFences(impl.MaxList), openAt(3)), a, codeAt(impl.ErrSize, 3))
					continue
				}
				want := storeOf(9, nil, fences(fence(from, to, 3)), openAt(3))
				wantVersions(t, "bounds", wantTx(t, "bounds", v, a, justTime(3)), want)
			}
		}
	}
}

// What a session gets, always with a fence behind the others.
func TestGetOfASession(t *testing.T) {
	for _, c := range []struct {
		name    string
		session int
		key     string
		want    impl.TxReply
	}{
		{"committed, then dropped, at an earlier time", 0, "a", codeAt(impl.ErrNone, 4)},
		{"committed at an earlier time", 1, "a", valueAt("a5", 8)},
		{"committed at an earlier time, of another session", 3, "a", valueAt("a5", 6)},
		{"written by itself over a version", 0, "b", valueAt("mine", 4)},
		{"written by another one that has not committed", 1, "b", valueAt("b1", 8)},
		{"dropped by itself", 0, "e", codeAt(impl.ErrNone, 4)},
		{"dropped by another one that has not committed", 1, "e", valueAt("e1", 8)},
		{"written by itself, new, without a value", 0, "f", valueAt("", 4)},
		{"new of another one that has not committed", 1, "f", codeAt(impl.ErrNone, 8)},
		{"new of an earlier one that has not committed", 3, "f", codeAt(impl.ErrNone, 6)},
		{"new of a later one that has not committed", 0, "n", codeAt(impl.ErrNone, 4)},
		{"without a value, dropped at a later time", 0, "c", valueAt("", 4)},
		{"without a value, dropped at a later time, of another session", 3, "c", valueAt("", 6)},
		{"dropped at an earlier time", 1, "c", codeAt(impl.ErrNone, 8)},
		{"a key that is nowhere", 0, "zz", codeAt(impl.ErrNone, 4)},
		{"a key with a byte more", 0, "b\x00", codeAt(impl.ErrNone, 4)},
		{"a key of MaxEntry bytes", 0, longKey, codeAt(impl.ErrNone, 4)},
	} {
		time := busy().Sessions[c.session].Time
		for _, value := range []string{"", "x", longValue} {
			a := txGet(c.session, c.key)
			a.Value = value
			want := busy()
			want.Fences = append(want.Fences, fence(c.key, c.key+"\x00", time))
			wantVersions(t, c.name, wantTx(t, c.name, busy(), a, c.want), want)
		}
	}
	same := storeOf(9, versions(version("a", 3, "at it"), version("b", 4, "later")), nil, openAt(3))
	wantTx(t, "a version of its own Time", same, txGet(0, "a"), valueAt("at it", 3))
	wantTx(t, "a version of one Time more", same, txGet(0, "b"), codeAt(impl.ErrNone, 3))
	// Twice is two fences.
	next := wantTx(t, "twice", wantTx(t, "once", same, txGet(0, "a"), valueAt("at it", 3)), txGet(0, "a"), valueAt("at it", 3))
	if !slices.Equal(next.Fences, fences(fence("a", "a\x00", 3), fence("a", "a\x00", 3))) {
		t.Errorf("fences of two gets: %v", next.Fences)
	}
}

func TestScanOfASession(t *testing.T) {
	for _, c := range []struct {
		name     string
		session  int
		from, to string
		want     impl.TxReply
	}{
		{"all, with writes over versions, new and dropped", 0, "", "", listAt(4, "b=mine", "c=", "f=")},
		{"all, without own writes", 1, "", "", listAt(8, "a=a5", "b=b1", "e=e1")},
		{"all, a new one at last", 3, "", "", listAt(6, "a=a5", "b=b1", "c=", "e=e1", "n=n6")},
		{"from a key on", 0, "b", "", listAt(4, "b=mine", "c=", "f=")},
		{"from behind a key on", 0, "b\x00", "", listAt(4, "c=", "f=")},
		{"below a key", 0, "", "c", listAt(4, "b=mine")},
		{"below a key with a byte more", 0, "", "c\x00", listAt(4, "b=mine", "c=")},
		{"one key alone", 0, "c", "c\x00", listAt(4, "c=")},
		{"a new one alone", 0, "e\xff", "g", listAt(4, "f=")},
		{"a dropped one alone", 0, "e", "f", listAt(4)},
		{"up to a new one", 0, "c", "f", listAt(4, "c=")},
		{"alike", 0, "b", "b", listAt(4)},
		{"alike, without a key there", 0, "bb", "bb", listAt(4)},
		{"turned round", 0, "f", "b", listAt(4)},
		{"below all", 0, "", "\x00", listAt(4)},
		{"behind all", 0, "zz", "", listAt(4)},
		{"bounds of MaxEntry bytes", 3, strings.Repeat("b", impl.MaxEntry), longKey + "", listAt(6, "c=", "e=e1")},
	} {
		want := busy()
		want.Fences = append(want.Fences, fence(c.from, c.to, want.Sessions[c.session].Time))
		next := wantTx(t, c.name, busy(), txScan(c.session, c.from, c.to), c.want)
		wantVersions(t, c.name, next, want)
	}
	only := storeOf(9, nil, nil, openAt(3, version("a", 3, "1"), goneAt("b", 3), version("c", 3, "3")))
	wantTx(t, "own writes alone", only, txScan(0, "", ""), listAt(3, "a=1", "c=3"))
	many := storeOf(9, manyVersions(impl.MaxList), nil, openAt(3, version("a", 3, "1")))
	if _, reply, code := impl.TxStep(many, txScan(0, "", "")); code != impl.OK || len(reply.List) != impl.MaxList+1 {
		t.Errorf("a scan of MaxList versions and a write has %d entries, code %d", len(reply.List), code)
	}
}

// With MaxList fences a get and a scan are ErrFull, and tell nothing else.
func TestLooksWithoutRoomForAFence(t *testing.T) {
	list := versions(version("a", 1, "x"))
	looks := []impl.TxAct{txGet(0, "a"), txGet(0, "none"), txScan(0, "", ""), txScan(0, "a", "b")}
	for _, a := range looks {
		wantIdle(t, "MaxList fences", storeOf(9, list, manyFences(impl.MaxList), openAt(3)), a, justCode(impl.ErrFull))
		next := wantTx(t, "one less", storeOf(9, list, manyFences(impl.MaxList-1), openAt(3)), a, []impl.TxReply{valueAt("x", 3), codeAt(impl.ErrNone, 3), listAt(3, "a=x"), listAt(3, "a=x")}[slices.Index(looks, a)])
		if len(next.Fences) != impl.MaxList || !impl.VersionsOK(next) {
			t.Errorf("one less: %d fences", len(next.Fences))
		}
		wantIdle(t, "then MaxList fences", next, a, justCode(impl.ErrFull))
	}
	full := storeOf(9, list, manyFences(impl.MaxList), openAt(3))
	// Other acts note none.
	for _, a := range []impl.TxAct{txPut(0, "a", "y"), txDrop(0, "a"), txAbort(0), txCommit(0)} {
		wantTx(t, "MaxList fences", full, a, justTime(3))
	}
	wantTx(t, "MaxList fences", full, txBegin(1), justTime(9))
}

func TestPutAndDropOfASession(t *testing.T) {
	some := versions(version("c", 3, "c"), goneAt("g", 3), version("m", 3, "m"))
	for _, c := range []struct {
		name string
		a    impl.TxAct
		want []impl.Version
	}{
		{"a put ahead", txPut(0, "a", "x"), versions(version("a", 3, "x"), some[0], some[1], some[2])},
		{"a put between", txPut(0, "d", "x"), versions(some[0], version("d", 3, "x"), some[1], some[2])},
		{"a put behind", txPut(0, "z", "x"), versions(some[0], some[1], some[2], version("z", 3, "x"))},
		{"a put of a key with a byte more", txPut(0, "c\x00", ""), versions(some[0], version("c\x00", 3, ""), some[1], some[2])},
		{"a drop ahead", txDrop(0, "a"), versions(goneAt("a", 3), some[0], some[1], some[2])},
		{"a drop between", txDrop(0, "h"), versions(some[0], some[1], goneAt("h", 3), some[2])},
		{"a drop behind", txDrop(0, "z"), versions(some[0], some[1], some[2], goneAt("z", 3))},
		{"a put over a put", txPut(0, "c", "new"), versions(version("c", 3, "new"), some[1], some[2])},
		{"a put over a put, without a value", txPut(0, "c", ""), versions(version("c", 3, ""), some[1], some[2])},
		{"a put over a put, alike", txPut(0, "m", "m"), some},
		{"a drop over a put", txDrop(0, "c"), versions(goneAt("c", 3), some[1], some[2])},
		{"a put over a drop", txPut(0, "g", "new"), versions(some[0], version("g", 3, "new"), some[2])},
		{"a drop over a drop", txDrop(0, "g"), some},
		{"a drop with a Value", impl.TxAct{Kind: impl.TxDrop, Key: "c", Value: longValue}, versions(goneAt("c", 3), some[1], some[2])},
		{"a put with a To", impl.TxAct{Kind: impl.TxPut, Key: "c", To: tooLongKey, Value: "x"}, versions(version("c", 3, "x"), some[1], some[2])},
	} {
		v := storeOf(9, busy().List, busy().Fences, openAt(3, some...), openAt(5, version("c", 5, "other")))
		want := storeOf(9, busy().List, busy().Fences, openAt(3, c.want...), v.Sessions[1])
		wantVersions(t, c.name, wantTx(t, c.name, v, c.a, justTime(3)), want)
	}
}

func TestMaxWrites(t *testing.T) {
	writes := manyWrites(impl.MaxWrites, 3)
	v := storeOf(9, nil, nil, openAt(3, writes...), openAt(4))
	for _, key := range []string{"a", numbered(3) + "x", "z"} {
		wantIdle(t, "a put of one key more", v, txPut(0, key, "x"), codeAt(impl.ErrFull, 3))
		wantIdle(t, "a drop of one key more", v, txDrop(0, key), codeAt(impl.ErrFull, 3))
		fewer := storeOf(9, nil, nil, openAt(3, writes[1:]...))
		if next := wantTx(t, "one less", fewer, txPut(0, key, "x"), justTime(3)); len(next.Sessions[0].Writes) != impl.MaxWrites || !impl.VersionsOK(next) {
			t.Error("MaxWrites Writes are not taken")
		}
		if next := wantTx(t, "one less", fewer, txDrop(0, key), justTime(3)); len(next.Sessions[0].Writes) != impl.MaxWrites || !impl.VersionsOK(next) {
			t.Error("MaxWrites Writes are not taken")
		}
	}
	for i := range writes {
		want := storeOf(9, nil, nil, openAt(3, slices.Clone(writes)...), openAt(4))
		want.Sessions[0].Writes[i] = version(numbered(i), 3, "new")
		wantVersions(t, "a put over one", wantTx(t, "a put over one", v, txPut(0, numbered(i), "new"), justTime(3)), want)
		want.Sessions[0].Writes[i] = goneAt(numbered(i), 3)
		wantVersions(t, "a drop over one", wantTx(t, "a drop over one", v, txDrop(0, numbered(i)), justTime(3)), want)
	}
	// Of the other session there is room.
	wantTx(t, "another session", v, txPut(1, "a", "x"), justTime(4))
}

// A commit with these fences and versions of the key k; either way the session is closed.
func TestConflicts(t *testing.T) {
	long := longKey[1:]
	for _, c := range []struct {
		name     string
		list     []impl.Version
		fences   []impl.Fence
		conflict bool
	}{
		{"nothing", nil, nil, false},
		{"an earlier version", versions(version("k", 4, "")), nil, false},
		{"a later version", versions(version("k", 6, "")), nil, true},
		{"a later version that is Gone", versions(goneAt("k", 6)), nil, true},
		{"an earlier and a later version", versions(version("k", 2, ""), version("k", 8, "")), nil, true},
		{"later versions of other keys", versions(version("j", 8, ""), version("k\x00", 8, ""), version("kk", 8, "")), nil, false},
		{"a fence of an earlier Time", nil, fences(fence("k", "k\x00", 4)), false},
		{"a fence of its own Time", nil, fences(fence("k", "k\x00", 5), fence("", "", 5)), false},
		{"a fence of a later Time", nil, fences(fence("k", "k\x00", 6)), true},
		{"a fence of a far later Time", nil, fences(fence("k", "k\x00", 8)), true},
		{"a fence just at From", nil, fences(fence("k", "z", 6)), true},
		{"a fence just behind", nil, fences(fence("k\x00", "z", 6)), false},
		{"a fence that ends just behind", nil, fences(fence("a", "k\x00", 6)), true},
		{"a fence that ends just there", nil, fences(fence("a", "k", 6)), false},
		{"a fence ahead", nil, fences(fence("a", "j", 6)), false},
		{"a fence of an empty From", nil, fences(fence("", "l", 6)), true},
		{"a fence of an empty From that ends there", nil, fences(fence("", "k", 6)), false},
		{"a fence without a To", nil, fences(fence("b", "", 6)), true},
		{"a fence without a To, just at From", nil, fences(fence("k", "", 6)), true},
		{"a fence without a To, behind", nil, fences(fence("l", "", 6)), false},
		{"a fence without bounds", nil, fences(fence("", "", 6)), true},
		{"a fence without bounds, earlier", nil, fences(fence("", "", 4)), false},
		{"a fence that is turned round", nil, fences(fence("z", "a", 6)), false},
		{"a fence of nothing", nil, fences(fence("k", "k", 6)), false},
		{"the last of several fences", nil, fences(fence("a", "b", 6), fence("k", "k\x00", 5), fence("k", "k\x00", 7)), true},
		{"the first of several fences", nil, fences(fence("k", "k\x00", 7), fence("k", "k\x00", 5), fence("a", "b", 6)), true},
		{"a fence of long bounds", nil, fences(fence("j"+long, "l"+long+"l", 6)), true},
		{"both", versions(version("k", 6, "")), fences(fence("k", "k\x00", 6)), true},
	} {
		for _, w := range []impl.Version{version("k", 5, "new"), version("k", 5, ""), goneAt("k", 5)} {
			v := storeOf(9, c.list, c.fences, openAt(3), openAt(5, w), openAt(8, version("k", 8, "later")))
			want := storeOf(9, c.list, c.fences, openAt(3), impl.Session{}, v.Sessions[2])
			reply := justTime(5)
			if c.conflict {
				reply.Code = impl.ErrConflict
			} else {
				want.List = append(slices.Clone(c.list), w)
				slices.SortFunc(want.List, plainVersionOrder)
			}
			next := wantTx(t, c.name, v, txCommit(1), reply)
			wantVersions(t, c.name, next, want)
			wantIdle(t, c.name+", then closed", next, txCommit(1), justCode(impl.ErrClosed))
			// An abort asks nothing.
			want.List = c.list
			wantVersions(t, c.name+", aborted", wantTx(t, c.name, v, txAbort(1), justTime(5)), want)
		}
	}
}

// One Write that is too late is enough, wherever it stands, and then none is there.
func TestConflictOfOneOfSeveralWrites(t *testing.T) {
	writes := manyWrites(impl.MaxWrites, 5)
	for i := range writes {
		for _, v := range []impl.Versions{
			storeOf(9, versions(version(numbered(i), 6, "later")), nil, openAt(5, writes...)),
			storeOf(9, nil, fences(fence(numbered(i), numbered(i)+"\x00", 7)), openAt(5, writes...)),
		} {
			want := storeOf(9, v.List, v.Fences)
			wantVersions(t, "one too late", wantTx(t, "one too late", v, txCommit(0), codeAt(impl.ErrConflict, 5)), want)
		}
	}
	none := storeOf(9, versions(version("a", 8, "")), fences(fence("", "", 8)), openAt(5))
	wantVersions(t, "nothing written", wantTx(t, "nothing written", none, txCommit(0), justTime(5)), storeOf(9, none.List, none.Fences))
}

func TestCommittedWritesStandInTheirPlace(t *testing.T) {
	v := busy()
	v.Fences = nil
	want := busy()
	want.Fences = nil
	want.Sessions[0] = impl.Session{}
	l := v.List
	want.List = versions(l[0], l[1], l[2], l[3], version("b", 4, "mine"), l[4], l[5], l[6], goneAt("e", 4), version("f", 4, ""))
	next := wantTx(t, "a commit", v, txCommit(0), justTime(4))
	wantVersions(t, "a commit", next, want)
	if !impl.VersionsOK(next) {
		t.Error("a commit leaves Versions that are not right")
	}
	// Texts of a commit and an abort are not looked at.
	wantVersions(t, "a commit with texts", wantTx(t, "a commit with texts", v, longAct(impl.TxCommit, 0), justTime(4)), want)
	want.List = l
	wantVersions(t, "an abort", wantTx(t, "an abort", v, txAbort(0), justTime(4)), want)
	wantVersions(t, "an abort with texts", wantTx(t, "an abort with texts", v, longAct(impl.TxAbort, 0), justTime(4)), want)
	// Fences stay when their session is closed.
	for _, kind := range []int{impl.TxCommit, impl.TxAbort} {
		if next := wantTx(t, "fences", busy(), txAct(kind, 1), justTime(8)); !slices.Equal(next.Fences, busy().Fences) {
			t.Errorf("Kind %d: fences %v", kind, next.Fences)
		}
	}
	// No Time is there twice: where List has the session's, the later Write counts.
	twice := storeOf(9, versions(version("a", 3, "x"), version("b", 3, "y")), nil, openAt(3, goneAt("a", 3)))
	wantVersions(t, "a Time again", wantTx(t, "a Time again", twice, txCommit(0), justTime(3)), storeOf(9, versions(goneAt("a", 3), version("b", 3, "y")), nil))
}

// No code of a commit is about how long List is: one that is full takes the
// Writes, and is not right any more.
func TestCommitIntoAFullList(t *testing.T) {
	v := storeOf(9, manyVersions(impl.MaxList), nil, openAt(3, version("a", 3, "x")), openAt(4, version("k10000", 4, "y")))
	next := wantTx(t, "a full List", v, txCommit(0), justTime(3))
	wantVersions(t, "a full List", next, storeOf(9, slices.Insert(manyVersions(impl.MaxList), 0, version("a", 3, "x")), nil, impl.Session{}, v.Sessions[1]))
	if impl.VersionsOK(next) {
		t.Error("List of more than MaxList is right")
	}
	fits := storeOf(9, manyVersions(impl.MaxList-1), nil, openAt(3, version("a", 3, "x")))
	if next := wantTx(t, "room for one", fits, txCommit(0), justTime(3)); len(next.List) != impl.MaxList || !impl.VersionsOK(next) {
		t.Error("List of MaxList is not right")
	}
}

func TestRunLimitsOfSessions(t *testing.T) {
	v, replies := txRun(t)
	wantVersions(t, "a run of nothing", v, storeOf(1, nil, nil))
	wantReplies(t, "a run of nothing", replies)
	// Begins and aborts: each has its own Time.
	var acts []impl.TxAct
	for len(acts) < impl.MaxList+1 {
		acts = append(acts, txBegin(len(acts)%8/2), txAbort(len(acts)%8/2))
	}
	v, replies = txRun(t, acts[:impl.MaxScript]...)
	wantVersions(t, "MaxScript acts", v, storeOf(1+impl.MaxScript/2, nil, nil))
	for i, r := range replies {
		if !alike(r, justTime(1+i/2)) {
			t.Fatalf("reply %d is %v", i, r)
		}
	}
	for _, c := range []struct{ acts, code int }{{impl.MaxScript + 1, impl.ErrMany}, {impl.MaxList, impl.ErrMany}, {impl.MaxList + 1, impl.ErrLong}} {
		if v, replies, code := impl.TxRun(acts[:c.acts]); code != c.code || len(replies) != 0 || !alike(v, impl.Versions{}) {
			t.Errorf("%d acts have code %d, want %d", c.acts, code, c.code)
		}
	}
}

// Texts of acts within a run are bounded by what their acts say of them alone.
func TestLongTextsWithinARun(t *testing.T) {
	text := strings.Repeat("t", impl.MaxText+1)
	v, replies := txRun(t,
		impl.TxAct{Kind: 9, Key: text},
		impl.TxAct{Kind: impl.TxBegin, Key: text, To: text, Value: text},
		impl.TxAct{Kind: impl.TxPut, Key: text, Value: "x"},
		impl.TxAct{Kind: impl.TxPut, Key: "k", Value: text},
		impl.TxAct{Kind: impl.TxPut, Key: "k", To: text, Value: "x"},
		impl.TxAct{Kind: impl.TxGet, Key: "k", To: text},
		impl.TxAct{Kind: impl.TxGet, Key: text},
		impl.TxAct{Kind: impl.TxScan, Key: "a", Value: text},
		impl.TxAct{Kind: impl.TxScan, Key: "a", To: text},
		impl.TxAct{Kind: impl.TxDrop, Key: "k", Value: text},
		impl.TxAct{Kind: impl.TxCommit, Key: text, To: text, Value: text},
		impl.TxAct{Kind: impl.TxGet, Key: text},
		impl.TxAct{Kind: impl.TxGet, Session: 7, Key: text})
	wantReplies(t, "long texts", replies,
		justCode(impl.ErrForm), justTime(1), codeAt(impl.ErrSize, 1), codeAt(impl.ErrSize, 1), justTime(1), valueAt("x", 1), codeAt(impl.ErrSize, 1),
		listAt(1, "k=x"), codeAt(impl.ErrSize, 1), codeAt(impl.ErrSize, 1), justTime(1), justCode(impl.ErrClosed), justCode(impl.ErrRange))
	wantVersions(t, "long texts", v, storeOf(2, versions(version("k", 1, "x")), fences(fence("k", "k\x00", 1), fence("a", "", 1))))
}
