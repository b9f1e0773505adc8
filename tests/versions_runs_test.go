package tests

import (
	"maps"
	"math"
	"slices"
	"strconv"
	"strings"
	"testing"

	"loop.example/g00163/impl"
)

// versionKey is one of some few keys, so that sessions meet.
func versionKey(next func() uint64) string {
	return "k" + strconv.Itoa(int(10+next()%14))
}

// someTxAct is mostly an act that may be done.
func someTxAct(next func() uint64, v impl.Versions) impl.TxAct {
	session := int(next() % impl.MaxSessions)
	if len(v.Sessions) == impl.MaxSessions && !v.Sessions[session].Open && next()%10 > 0 {
		return txBegin(session)
	}
	switch n := next() % 100; {
	case n < 22:
		return txGet(session, versionKey(next))
	case n < 30:
		from, to := versionKey(next), versionKey(next)
		return txScan(session, []string{from, from, from, ""}[next()%4], []string{to, from + "z", to, ""}[next()%4])
	case n < 62:
		return txPut(session, versionKey(next), strconv.Itoa(int(next()%1000)))
	case n < 72:
		return txDrop(session, versionKey(next))
	case n < 88:
		return txCommit(session)
	case n < 92:
		return txAbort(session)
	case n < 94:
		return txBegin(session)
	case n < 96:
		return impl.TxAct{Kind: int(impl.TxGet + next()%4), Session: session, Key: tooLongKey[next()%2:], To: tooLongKey[next()%2:], Value: tooLong[next()%2:]}
	}
	return impl.TxAct{Kind: int(next()%10) - 1, Session: int(next()%7) - 1, Key: someKey(next), To: someKey(next), Value: someValue(next)}
}

// Each act does what the document says, whoever stands between.
func TestRunsOfSessions(t *testing.T) {
	next := numbers(43)
	type seenAct struct{ kind, code int }
	seen := map[seenAct]int{}
	for range 40 {
		v := storeOf(1, nil, nil)
		for range 250 {
			a := someTxAct(next, v)
			want, wantReply, _ := plainTxStep(v, a)
			got := wantTx(t, "a run", v, a, wantReply)
			wantVersions(t, "a run", got, want)
			if t.Failed() {
				t.Fatalf("behind an act of Kind %d of session %d", a.Kind, a.Session)
			}
			seen[seenAct{a.Kind, wantReply.Code}]++
			v = got
		}
		if !impl.VersionsOK(v) {
			t.Fatal("Versions are not right behind their acts")
		}
	}
	for _, c := range []seenAct{
		{impl.TxBegin, impl.OK}, {impl.TxBegin, impl.ErrState},
		{impl.TxGet, impl.OK}, {impl.TxGet, impl.ErrNone}, {impl.TxGet, impl.ErrSize}, {impl.TxGet, impl.ErrClosed},
		{impl.TxScan, impl.OK}, {impl.TxScan, impl.ErrSize},
		{impl.TxPut, impl.OK}, {impl.TxPut, impl.ErrSize}, {impl.TxPut, impl.ErrFull}, {impl.TxDrop, impl.OK},
		{impl.TxCommit, impl.OK}, {impl.TxCommit, impl.ErrConflict}, {impl.TxCommit, impl.ErrClosed}, {impl.TxAbort, impl.OK},
		{0, impl.ErrForm}, {8, impl.ErrForm}, {impl.TxGet, impl.ErrRange}, {impl.TxBegin, impl.ErrRange},
	} {
		if seen[c] < 5 {
			t.Errorf("Kind %d with code %d was seen %d times", c.kind, c.code, seen[c])
		}
	}
}

// story is what a plain onlooker writes down of a run: what each session
// wrote, and which times committed what.
type story struct {
	times     [impl.MaxSessions]int
	wrote     [impl.MaxSessions]map[string]impl.Version
	committed map[int]map[string]impl.Version
}

// seenAt is what the commits of earlier times make.
func (s *story) seenAt(time int) map[string]string {
	all := map[string]string{}
	for _, at := range slices.Sorted(maps.Keys(s.committed)) {
		if at < time {
			overlay(all, s.committed[at])
		}
	}
	return all
}

func overlay(all map[string]string, writes map[string]impl.Version) {
	for key, w := range writes {
		if w.Gone {
			delete(all, key)
		} else {
			all[key] = w.Value
		}
	}
}

func (s *story) note(a impl.TxAct, r impl.TxReply) {
	if r.Code != impl.OK && r.Code != impl.ErrConflict {
		return
	}
	switch a.Kind {
	case impl.TxBegin:
		s.times[a.Session], s.wrote[a.Session] = r.Time, map[string]impl.Version{}
	case impl.TxPut:
		s.wrote[a.Session][a.Key] = version(a.Key, r.Time, a.Value)
	case impl.TxDrop:
		s.wrote[a.Session][a.Key] = goneAt(a.Key, r.Time)
	case impl.TxCommit:
		if r.Code == impl.OK {
			s.committed[r.Time] = s.wrote[a.Session]
		}
	}
}

// look is a get or a scan with what the session had written itself then.
type look struct {
	act   impl.TxAct
	reply impl.TxReply
	wrote map[string]impl.Version
}

func (l look) wants(all map[string]string) bool {
	overlay(all, l.wrote)
	if l.act.Kind == impl.TxGet {
		value, found := all[l.act.Key]
		return found == (l.reply.Code == impl.OK) && value == l.reply.Value
	}
	var list []impl.Entry
	for _, e := range entriesIn(all) {
		if plainWithin(l.act.Key, l.act.To, e.Key) {
			list = append(list, e)
		}
	}
	return slices.Equal(list, l.reply.List)
}

// What a session saw is what the commits of earlier times make, with its own
// writes over it: when it looked, and still so when all is over, however late
// an earlier one commits.
func TestSessionsSeeTheCommitsOfEarlierTimes(t *testing.T) {
	next := numbers(47)
	looks, conflicts, commits := 0, 0, 0
	for range 150 {
		v := storeOf(1, nil, nil)
		var acts []impl.TxAct
		for range impl.MaxScript {
			a := someTxAct(next, v)
			acts = append(acts, a)
			v, _, _ = impl.TxStep(v, a)
		}
		last, replies := txRun(t, acts...)
		wantVersions(t, "a run is its acts", last, v)
		s := story{committed: map[int]map[string]impl.Version{}}
		var seen []look
		for i, a := range acts {
			r := replies[i]
			if (a.Kind == impl.TxGet || a.Kind == impl.TxScan) && (r.Code == impl.OK || r.Code == impl.ErrNone) {
				l := look{a, r, maps.Clone(s.wrote[a.Session])}
				if r.Time != s.times[a.Session] || !l.wants(s.seenAt(r.Time)) {
					t.Fatalf("act %d: a session of Time %d sees %v", i, r.Time, r)
				}
				seen = append(seen, l)
			}
			if a.Kind == impl.TxCommit && r.Code == impl.ErrConflict {
				conflicts++
			}
			s.note(a, r)
		}
		for _, l := range seen {
			if !l.wants(s.seenAt(l.reply.Time)) {
				t.Fatalf("a session of Time %d saw %v, which is not what the commits of earlier times made in the end", l.reply.Time, l.reply)
			}
		}
		wantEntriesAt(t, "in the end", last.List, last.Next, entriesIn(s.seenAt(math.MaxInt)))
		looks, commits = looks+len(seen), commits+len(s.committed)
	}
	if looks < 1000 || conflicts < 100 || commits < 500 {
		t.Errorf("%d looks, %d conflicts, %d commits", looks, conflicts, commits)
	}
}

// One session alone commits whatever it does.
func TestOneSessionAloneCommits(t *testing.T) {
	next := numbers(53)
	for range 40 {
		kept := map[string]string{}
		v := storeOf(1, nil, nil)
		for range 12 {
			mine := maps.Clone(kept)
			v, _, _ = impl.TxStep(v, txBegin(2))
			for range 1 + next()%20 {
				a := someTxAct(next, v)
				if a.Kind == impl.TxCommit || a.Kind == impl.TxAbort || a.Kind == impl.TxBegin {
					continue
				}
				a.Session = 2
				var reply impl.TxReply
				v, reply, _ = impl.TxStep(v, a)
				if a.Kind == impl.TxPut && reply.Code == impl.OK {
					mine[a.Key] = a.Value
				} else if a.Kind == impl.TxDrop && reply.Code == impl.OK {
					delete(mine, a.Key)
				}
			}
			end := txCommit(2)
			if next()%4 == 0 {
				end = txAbort(2)
			}
			var reply impl.TxReply
			v, reply, _ = impl.TxStep(v, end)
			if reply.Code != impl.OK {
				t.Fatalf("Kind %d of one alone has code %d", end.Kind, reply.Code)
			}
			if end.Kind == impl.TxCommit {
				kept = mine
			}
			wantEntriesAt(t, "one alone", v.List, v.Next, entriesIn(kept))
		}
	}
}

// The document's own order of things: who comes too late, and who does not.
func TestSessionsThatComeTooLate(t *testing.T) {
	for _, c := range []struct {
		name string
		acts []impl.TxAct
		want []impl.TxReply
	}{
		{"an earlier one writes what a later one has written", []impl.TxAct{txBegin(0), txBegin(1), txPut(0, "k", "0"), txPut(1, "k", "1"), txCommit(1), txCommit(0)},
			[]impl.TxReply{justTime(1), justTime(2), justTime(1), justTime(2), justTime(2), codeAt(impl.ErrConflict, 1)}},
		{"in the order of their times", []impl.TxAct{txBegin(0), txBegin(1), txPut(0, "k", "0"), txPut(1, "k", "1"), txCommit(0), txCommit(1), txBegin(3), txGet(3, "k")},
			[]impl.TxReply{justTime(1), justTime(2), justTime(1), justTime(2), justTime(1), justTime(2), justTime(3), valueAt("1", 3)}},
		{"what a later one looked for", []impl.TxAct{txBegin(0), txBegin(1), txGet(1, "k"), txAbort(1), txPut(0, "k", "0"), txCommit(0)},
			[]impl.TxReply{justTime(1), justTime(2), codeAt(impl.ErrNone, 2), justTime(2), justTime(1), codeAt(impl.ErrConflict, 1)}},
		{"what a later one looked for that it wrote itself", []impl.TxAct{txBegin(0), txBegin(1), txPut(1, "k", "1"), txGet(1, "k"), txAbort(1), txDrop(0, "k"), txCommit(0)},
			[]impl.TxReply{justTime(1), justTime(2), justTime(2), valueAt("1", 2), justTime(2), justTime(1), codeAt(impl.ErrConflict, 1)}},
		{"what a later one wrote and did not commit", []impl.TxAct{txBegin(0), txBegin(1), txPut(1, "k", "1"), txPut(0, "k", "0"), txCommit(0), txGet(1, "k"), txDrop(1, "k"), txGet(1, "k"), txAbort(1)},
			[]impl.TxReply{justTime(1), justTime(2), justTime(2), justTime(1), justTime(1), valueAt("1", 2), justTime(2), codeAt(impl.ErrNone, 2), justTime(2)}},
		{"what an earlier one looked for", []impl.TxAct{txBegin(0), txBegin(1), txGet(0, "k"), txScan(0, "", ""), txPut(1, "k", "1"), txCommit(1), txGet(0, "k"), txScan(0, "", ""), txCommit(0)},
			[]impl.TxReply{justTime(1), justTime(2), codeAt(impl.ErrNone, 1), listAt(1), justTime(2), justTime(2), codeAt(impl.ErrNone, 1), listAt(1), justTime(1)}},
		{"a later one sees a commit of an earlier time behind its begin", []impl.TxAct{txBegin(0), txBegin(1), txPut(0, "k", "0"), txCommit(0), txGet(1, "k"), txScan(1, "", "")},
			[]impl.TxReply{justTime(1), justTime(2), justTime(1), justTime(1), valueAt("0", 2), listAt(2, "k=0")}},
		{"nothing of a conflict is seen", []impl.TxAct{txBegin(0), txPut(0, "a", "0"), txPut(0, "k", "0"), txBegin(1), txGet(1, "k"), txCommit(0), txGet(1, "a"), txScan(1, "", ""), txBegin(0), txScan(0, "", "")},
			[]impl.TxReply{justTime(1), justTime(1), justTime(1), justTime(2), codeAt(impl.ErrNone, 2), codeAt(impl.ErrConflict, 1), codeAt(impl.ErrNone, 2), listAt(2), justTime(3), listAt(3)}},
		{"what was scanned, and just not", []impl.TxAct{txBegin(0), txBegin(1), txBegin(2), txScan(2, "b", "d"), txPut(0, "d", "0"), txPut(0, "a\xff", "0"), txCommit(0), txPut(1, "b", "1"), txCommit(1)},
			[]impl.TxReply{justTime(1), justTime(2), justTime(3), listAt(3), justTime(1), justTime(1), justTime(1), justTime(2), codeAt(impl.ErrConflict, 2)}},
	} {
		v, replies := txRun(t, c.acts...)
		wantReplies(t, c.name, replies, c.want...)
		if !impl.VersionsOK(v) {
			t.Errorf("%s: Versions are not right", c.name)
		}
	}
}

// turnVersions changes one thing of Versions, mostly so that they are not right any more.
func turnVersions(next func() uint64, v *impl.Versions) {
	number := []int{-1, 0, 1, v.Next - 1, v.Next, impl.MaxId, impl.MaxId + 1}[next()%7]
	s := &v.Sessions[next()%uint64(len(v.Sessions))]
	switch n := next() % 12; {
	case n == 0:
		v.Next = number
	case n == 1:
		s.Time = number
	case n == 2:
		s.Open = !s.Open
	case n == 3 && len(s.Writes) > 0:
		turnVersion(next, number, s.Writes)
	case n == 4:
		s.Writes = append(s.Writes, version(versionKey(next), s.Time, ""))
	case n == 5:
		v.Sessions = append(v.Sessions, *s)[next()%2*2:]
	case n < 8 && len(v.Fences) > 0:
		f := &v.Fences[next()%uint64(len(v.Fences))]
		f.Time = number
		f.To += strings.Repeat("t", int(next()%60))
	case n == 8 && len(v.Fences) > 0:
		v.Fences[next()%uint64(len(v.Fences))].From = strings.Repeat("f", int(next()%60))
	case len(v.List) > 0:
		turnVersion(next, number, v.List)
	}
}

func turnVersion(next func() uint64, number int, list []impl.Version) {
	x := &list[next()%uint64(len(list))]
	switch next() % 5 {
	case 0:
		x.Time = number
	case 1:
		x.Gone = !x.Gone
	case 2:
		x.Key = someKey(next)
	case 3:
		x.Value = someValue(next)
	case 4:
		*x = list[next()%uint64(len(list))]
	}
}

func TestTurnedVersionsAreRightAsTheDocumentSays(t *testing.T) {
	next := numbers(59)
	seen := map[bool]int{}
	for range 60 {
		v := storeOf(1, nil, nil)
		for range 20 + next()%60 {
			v, _, _ = impl.TxStep(v, someTxAct(next, v))
		}
		for range 60 {
			turned := own(v, 0).(impl.Versions)
			turnVersions(next, &turned)
			ok := plainVersionsOK(turned)
			seen[ok]++
			if impl.VersionsOK(turned) != ok {
				t.Fatalf("VersionsOK is not %v of %q", ok, told([]any{turned}))
			}
			a := someTxAct(next, turned)
			want, wantReply, wantCode := plainTxStep(turned, a)
			got, reply, code := impl.TxStep(turned, a)
			if code != wantCode || !alike(reply, wantReply) || !alike(got, want) {
				t.Fatalf("an act of Kind %d has code %d and reply %v, want code %d and %v", a.Kind, code, reply, wantCode, wantReply)
			}
			time := int(next()%12) - 1
			wantLeft, wantCode := plainPrune(turned, time)
			left, code := impl.Prune(turned, time)
			if code != wantCode || !alike(left, wantLeft) {
				t.Fatalf("Prune at %d has code %d, want %d", time, code, wantCode)
			}
		}
	}
	if seen[true] < 300 || seen[false] < 1000 {
		t.Errorf("%d Versions are right, %d are not", seen[true], seen[false])
	}
}
