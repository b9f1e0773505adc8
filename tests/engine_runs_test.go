package tests

import (
	"bytes"
	"cmp"
	"slices"
	"strings"
	"testing"

	"loop.example/g00163/impl"
)

func someFlags(next func() uint64) []bool {
	var keep []bool
	often := 1 + next()%4
	for range next() % 40 {
		keep = append(keep, next()%(often+1) > 0)
	}
	return keep
}

// someEngineAct is mostly an act of a session; commits are more often than
// elsewhere, and so is all that comes between them.
func someEngineAct(next func() uint64, v impl.Versions) impl.EngineAct {
	switch n := next() % 100; {
	case n < 7:
		return enSync()
	case n < 10:
		return enCrash(int(next()%17), someFlags(next)...)
	case n < 11:
		return enCrash(int(next()%21)-2, someFlags(next)...)
	case n < 15:
		return enClean()
	case n < 16:
		return impl.EngineAct{Kind: int(next()%8) - 1, Torn: int(next() % 20), Tx: someTxAct(next, v), Keep: someFlags(next)}
	case n < 30:
		return enTx(txCommit(int(next() % impl.MaxSessions)))
	case n < 36:
		session := int(next() % impl.MaxSessions)
		return enTx(txPut(session, versionKey(next)+strings.Repeat("k", int(next()%36)), strings.Repeat("v", int(next()%100))))
	}
	return enTx(someTxAct(next, v))
}

// fillingAct fills an engine up: long writes, commits, hardly a crash.
func fillingAct(next func() uint64, v impl.Versions) impl.EngineAct {
	session := int(next() % impl.MaxSessions)
	switch n := next() % 40; {
	case !v.Sessions[session].Open:
		return enTx(txBegin(session))
	case n < 26:
		return enTx(txPut(session, longKey[:38]+versionKey(next)[1:], longValue[next()%9:]))
	case n < 38:
		return enTx(txCommit(session))
	}
	return someEngineAct(next, v)
}

// someScript is a run as it comes, of a plain engine that does it.
func someScript(next func() uint64, n int) []impl.EngineAct {
	e := plainNothing()
	var acts []impl.EngineAct
	some := someEngineAct
	if next()%4 == 0 {
		some = fillingAct
	}
	for range n {
		a := some(next, e.v)
		acts = append(acts, a)
		e.do(a)
	}
	return acts
}

func TestRunsOfAnEngine(t *testing.T) {
	next := numbers(73)
	type seenAct struct{ kind, tx, code int }
	seen := map[seenAct]int{}
	for range 300 {
		acts := someScript(next, int(next()%(impl.MaxScript+1)))
		wantPlain(t, "a run", acts)
		if t.Failed() {
			t.FailNow()
		}
		_, replies := engineRun(t, acts)
		for i, r := range replies {
			s := seenAct{acts[i].Kind, 0, r.Code}
			if s.kind == impl.EnTx {
				s.tx = acts[i].Tx.Kind
			}
			seen[s]++
		}
	}
	for _, c := range []seenAct{
		{impl.EnSync, 0, impl.OK}, {impl.EnCrash, 0, impl.OK}, {impl.EnCrash, 0, impl.ErrRange},
		{impl.EnClean, 0, impl.OK}, {impl.EnClean, 0, impl.ErrState}, {0, 0, impl.ErrForm}, {5, 0, impl.ErrForm},
		{impl.EnTx, impl.TxCommit, impl.OK}, {impl.EnTx, impl.TxCommit, impl.ErrConflict}, {impl.EnTx, impl.TxCommit, impl.ErrClosed}, {impl.EnTx, impl.TxCommit, impl.ErrFull},
		{impl.EnTx, impl.TxGet, impl.OK}, {impl.EnTx, impl.TxGet, impl.ErrNone}, {impl.EnTx, impl.TxScan, impl.OK}, {impl.EnTx, impl.TxPut, impl.ErrFull}, {impl.EnTx, impl.TxAbort, impl.OK},
	} {
		if seen[c] < 5 {
			t.Errorf("Kind %d, of a session %d, with code %d was seen %d times", c.kind, c.tx, c.code, seen[c])
		}
	}
}

// done is a commit that was told to be done.
type done struct {
	time   int
	writes []impl.Version
}

// journal is what a plain onlooker writes down of an engine's replies: the
// commits, one behind the other, and how many of them were synced.
type journal struct {
	wrote   [impl.MaxSessions]map[string]impl.Version
	commits []done
	synced  int
}

func (j *journal) note(a impl.EngineAct, r impl.TxReply) {
	switch {
	case r.Code != impl.OK:
		return
	case a.Kind == impl.EnSync:
		j.synced = len(j.commits)
	case a.Kind != impl.EnTx:
		return
	case a.Tx.Kind == impl.TxBegin:
		j.wrote[a.Tx.Session] = map[string]impl.Version{}
	case a.Tx.Kind == impl.TxPut:
		j.wrote[a.Tx.Session][a.Tx.Key] = version(a.Tx.Key, r.Time, a.Tx.Value)
	case a.Tx.Kind == impl.TxDrop:
		j.wrote[a.Tx.Session][a.Tx.Key] = goneAt(a.Tx.Key, r.Time)
	case a.Tx.Kind == impl.TxCommit:
		var writes []impl.Version
		for _, w := range j.wrote[a.Tx.Session] {
			writes = append(writes, w)
		}
		slices.SortFunc(writes, plainVersionOrder)
		j.commits = append(j.commits, done{r.Time, writes})
	}
}

func (j *journal) list() []impl.Version {
	var all []impl.Version
	for _, c := range j.commits {
		all = append(all, c.writes...)
	}
	slices.SortFunc(all, plainVersionOrder)
	return all
}

func (j *journal) log() []byte {
	var b []byte
	for _, c := range j.commits {
		b = append(b, rawOf(impl.Image{Id: c.time, Data: plainBytes(c.writes)})...)
	}
	return b
}

// next is the time behind all that were committed.
func (j *journal) next() int {
	last := 0
	for _, c := range j.commits {
		last = max(last, c.time)
	}
	return last + 1
}

// crashed leaves the commits whose bytes are all held, up to the first that is not.
func (j *journal) crashed(held []byte) {
	all := *j
	j.commits = nil
	for _, c := range all.commits {
		j.commits = append(j.commits, c)
		if !bytes.HasPrefix(held, j.log()) {
			j.commits = j.commits[:len(j.commits)-1]
			break
		}
	}
	j.synced = len(j.commits)
}

// cleaned leaves what the last commits of each key put.
func (j *journal) cleaned(next int) {
	all := j.list()
	var left []done
	for _, c := range j.commits {
		var writes []impl.Version
		for _, w := range c.writes {
			last := !slices.ContainsFunc(all, func(x impl.Version) bool { return x.Key == w.Key && x.Time > w.Time })
			if last && !w.Gone {
				writes = append(writes, w)
			}
		}
		if len(writes) > 0 || c.time == next-1 {
			left = append(left, done{c.time, writes})
		}
	}
	j.commits = left
	if next > 1 && j.next() != next {
		j.commits = append(j.commits, done{time: next - 1})
	}
	slices.SortFunc(j.commits, func(a, b done) int { return cmp.Compare(a.time, b.time) })
	j.synced = len(j.commits)
}

// What was committed ahead of a sync is there behind any crash, and of the rest
// just what the log held, in its order; cleaning changes nothing that is seen.
func TestCommittedAndSyncedIsThere(t *testing.T) {
	next := numbers(79)
	crashes, lost, part, cleans := 0, 0, 0, 0
	for range 250 {
		acts := someScript(next, impl.MaxScript)
		_, replies := engineRun(t, acts)
		var j journal
		for i, a := range acts {
			j.note(a, replies[i])
			if replies[i].Code != impl.OK || a.Kind != impl.EnCrash && a.Kind != impl.EnClean {
				continue
			}
			before, _ := engineRun(t, acts[:i])
			after, _ := engineRun(t, acts[:i+1])
			if a.Kind == impl.EnCrash {
				count, synced := len(j.commits), j.synced
				j.crashed(crash(t, before.Flash, a.Torn, a.Keep...))
				if len(j.commits) < synced {
					t.Fatalf("act %d: %d commits were synced, %d are held", i, synced, len(j.commits))
				}
				crashes++
				if len(j.commits) < count {
					lost++
				}
				if len(j.commits) > synced {
					part++
				}
				wantVersions(t, "behind a crash", after.Versions, storeOf(j.next(), j.list(), nil))
			} else {
				j.cleaned(before.Versions.Next)
				cleans++
				wantEntriesAt(t, "behind a clean", after.Versions.List, impl.MaxId, plainVersionEntries(before.Versions.List, impl.MaxId))
				wantVersions(t, "behind a clean", after.Versions, storeOf(before.Versions.Next, j.list(), nil))
			}
			wantBytes(t, "the log", after.Flash.Held, joined(j.log()))
			if t.Failed() {
				t.Fatalf("at act %d of Kind %d", i, a.Kind)
			}
		}
	}
	if crashes < 500 || lost < 100 || part < 100 || cleans < 20 {
		t.Errorf("%d crashes, %d lost something, %d kept something that was not synced, %d cleans", crashes, lost, part, cleans)
	}
}

// Behind any crash of all those that might be, what was synced is there.
func TestAnyCrashLeavesWhatWasSynced(t *testing.T) {
	next := numbers(83)
	for range 60 {
		acts := script(someScript(next, 60), enSync())
		synced := wantPlain(t, "synced", acts)
		for range next() % 5 {
			acts = append(acts, commits(int(next()%2), versionKey(next)+"=x", versionKey(next))...)
		}
		for torn := range impl.SectorSize + 1 {
			e, _ := engineRun(t, acts, enCrash(torn, someFlags(next)...))
			for _, x := range synced.Versions.List {
				if !slices.Contains(e.Versions.List, x) {
					t.Fatalf("torn %d: %v was synced, and is not there", torn, x)
				}
			}
			if e.Synced < synced.Synced || !bytes.HasPrefix(e.Flash.Held, synced.Flash.Held[:synced.Synced]) {
				t.Fatalf("torn %d: the log is %d bytes long, %d were synced", torn, e.Synced, synced.Synced)
			}
		}
	}
}

// closeAll are acts that leave no session open.
func closeAll() []impl.EngineAct {
	return script(txAbort(0), txAbort(1), txAbort(2), txAbort(3))
}

// Who comes behind a clean is told what he would have been told without it,
// and behind a crash that comes then, too.
func TestCleanChangesNothingThatIsSeen(t *testing.T) {
	next := numbers(89)
	took := 0
	for range 300 {
		v := storeOf(1, nil, nil)
		// Few enough that there is room for all.
		var first, second []impl.EngineAct
		for range 40 {
			a := someTxAct(next, v)
			first = append(first, enTx(a))
			v, _, _ = plainTxStep(v, a)
		}
		first = append(first, closeAll()...)
		for session := range impl.MaxSessions {
			v, _, _ = plainTxStep(v, txAbort(session))
		}
		for range 60 {
			a := someTxAct(next, v)
			second = append(second, enTx(a))
			v, _, _ = plainTxStep(v, a)
		}
		// What there is in the end is asked, too.
		second = append(second, script(closeAll(), txBegin(0), txScan(0, "", ""))...)
		without, replies := engineRun(t, first, second)
		if slices.ContainsFunc(replies, func(r impl.TxReply) bool { return r.Code == impl.ErrFull && r.Time == 0 }) {
			t.Fatal("there is no room")
		}
		for _, between := range [][]impl.EngineAct{{enClean()}, {enClean(), enCrash(3, true, true)}, {enSync(), enClean(), enClean(), enCrash(0)}} {
			with, others := engineRun(t, first, between, second)
			if others[len(first)].Code != impl.OK {
				t.Fatalf("a clean has code %d", others[len(first)].Code)
			}
			wantReplies(t, "behind a clean", others[len(first)+len(between):], replies[len(first):]...)
			wantEntriesAt(t, "in the end", with.Versions.List, impl.MaxId, plainVersionEntries(without.Versions.List, impl.MaxId))
			if t.Failed() {
				t.FailNow()
			}
			if len(with.Versions.List) < len(without.Versions.List) {
				took++
			}
		}
	}
	if took < 300 {
		t.Errorf("only %d cleans took something", took)
	}
}

// A run is what its beginnings are: no later act changes an earlier reply.
func TestAnEngineRunIsItsActs(t *testing.T) {
	next := numbers(97)
	for range 10 {
		acts := someScript(next, impl.MaxScript)
		_, replies := engineRun(t, acts)
		for n := range len(acts) {
			if n%7 == 0 {
				_, some := engineRun(t, acts[:n])
				wantReplies(t, "a beginning", some, replies[:n]...)
			}
		}
	}
}
