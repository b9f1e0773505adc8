package tests

import (
	"strings"
	"testing"

	"loop.example/g00163/impl"
)

func TestCleanWithASessionOpen(t *testing.T) {
	before := script(commits(0, "a=1"), commits(0, "a=2"))
	for session := range impl.MaxSessions {
		open := script(before, txBegin(session), txGet(session, "a"))
		was := runDone(t, open)
		e, replies := engineRun(t, open, enClean())
		wantEngine(t, "a session open", e, was)
		wantReplies(t, "a session open", replies[len(replies)-1:], justCode(impl.ErrState))
		for _, kind := range []int{impl.TxCommit, impl.TxAbort} {
			wantLast(t, "closed again", impl.TxReply{}, open, txAct(kind, session), enClean())
		}
		wantLast(t, "closed by a crash", impl.TxReply{}, open, enCrash(0), enClean())
	}
	// Without room as well: what is open is told first.
	wantLast(t, "open, and without room", justCode(impl.ErrState), fullBut(0), txBegin(1), enClean())
}

func TestClean(t *testing.T) {
	for _, c := range []struct {
		name string
		acts []impl.EngineAct
		next int
		list []impl.Version
		log  []impl.Image
	}{
		{"nothing", nil, 1, nil, nil},
		{"nothing but a time", script(txBegin(0), txAbort(0)), 2, nil, []impl.Image{commitOf(1)}},
		{"nothing but times", script(txBegin(0), txBegin(1), txAbort(0), txAbort(1)), 3, nil, []impl.Image{commitOf(2)}},
		{"a commit without writes", script(commits(0)), 2, nil, []impl.Image{commitOf(1)}},
		{"commits without writes", script(commits(0), commits(1)), 3, nil, []impl.Image{commitOf(2)}},
		{"one", commits(0, "a=1"), 2, versions(version("a", 1, "1")), []impl.Image{commitOf(1, "a=1")}},
		{"one without a value", commits(0, "a="), 2, versions(version("a", 1, "")), []impl.Image{commitOf(1, "a=")}},
		{"one that is Gone", commits(0, "a"), 2, nil, []impl.Image{commitOf(1)}},
		{"one that is Gone among others", commits(0, "a=1", "b", "c=3"), 2, versions(version("a", 1, "1"), version("c", 1, "3")), []impl.Image{commitOf(1, "a=1", "c=3")}},
		{"dropped later", script(commits(0, "a=1"), commits(0, "a")), 3, nil, []impl.Image{commitOf(2)}},
		{"dropped, and put again", script(commits(0, "a"), commits(0, "a=2")), 3, versions(version("a", 2, "2")), []impl.Image{commitOf(2, "a=2")}},
		{"several versions", script(commits(0, "a=1"), commits(1, "a=2"), commits(0, "a=3")), 4, versions(version("a", 3, "3")), []impl.Image{commitOf(3, "a=3")}},
		{"several versions, some keys", script(commits(0, "a=1", "b=1"), commits(1, "a=2", "c=2"), commits(0, "c=3")), 4,
			versions(version("a", 2, "2"), version("b", 1, "1"), version("c", 3, "3")), []impl.Image{commitOf(1, "b=1"), commitOf(2, "a=2"), commitOf(3, "c=3")}},
		{"a last time that has no writes any more", script(commits(0, "a=1", "b=1"), commits(1, "a")), 3, versions(version("b", 1, "1")), []impl.Image{commitOf(1, "b=1"), commitOf(2)}},
		{"a last time that was aborted", script(commits(0, "a=1"), txBegin(0), txPut(0, "a", "2"), txAbort(0)), 3, versions(version("a", 1, "1")), []impl.Image{commitOf(1, "a=1"), commitOf(2)}},
		{"a time between that has no writes any more", script(commits(0, "a=1"), commits(0, "b=2"), commits(0, "b=3")), 4,
			versions(version("a", 1, "1"), version("b", 3, "3")), []impl.Image{commitOf(1, "a=1"), commitOf(3, "b=3")}},
		{"times out of order", script(txBegin(0), txBegin(1), txPut(0, "a", "1"), txPut(1, "b", "2"), txCommit(1), txCommit(0)), 3,
			versions(version("a", 1, "1"), version("b", 2, "2")), []impl.Image{commitOf(1, "a=1"), commitOf(2, "b=2")}},
		{"the last time first in the log", script(txBegin(0), txBegin(1), txPut(0, "a", "1"), txCommit(1), txCommit(0)), 3,
			versions(version("a", 1, "1")), []impl.Image{commitOf(1, "a=1"), commitOf(2)}},
		{"fences", script(txBegin(0), txScan(0, "", "z"), txPut(0, "a", "1"), txCommit(0)), 2, versions(version("a", 1, "1")), []impl.Image{commitOf(1, "a=1")}},
	} {
		want := heldAlone(c.next, c.list, c.log...)
		for _, ahead := range [][]impl.EngineAct{nil, {enSync()}} {
			wantEngine(t, c.name, runDone(t, c.acts, ahead, enClean()), want)
			// What is cleaned is held: no crash takes anything of it, nor a second clean.
			for _, behind := range [][]impl.EngineAct{{enCrash(0)}, {enCrash(16, true, true)}, {enSync()}, {enClean()}, {enClean(), enCrash(3, true)}, {enCrash(0), enClean()}} {
				wantEngine(t, c.name+", then more", runDone(t, c.acts, ahead, enClean(), behind), want)
			}
			// No time is given again behind it.
			wantLast(t, c.name+", then begun", justTime(c.next), c.acts, ahead, enClean(), txBegin(0))
			wantLast(t, c.name+", crashed, then begun", justTime(c.next), c.acts, ahead, enClean(), enCrash(0), txBegin(0))
		}
		if v, n, code := impl.Recover(want.Flash); code != impl.OK || n != len(c.log) || !alike(v, want.Versions) {
			t.Errorf("%s: Recover of what is cleaned has %d images and code %d", c.name, n, code)
		}
	}
}

// Of what is behind a clean nothing stands in the way of a session.
func TestCleanTakesAllFences(t *testing.T) {
	acts := script(txBegin(0), txBegin(1), txScan(1, "", ""), txAbort(0), txAbort(1))
	if e := runDone(t, acts); len(e.Versions.Fences) != 1 {
		t.Fatalf("fences %v", e.Versions.Fences)
	}
	if e := runDone(t, acts, enClean()); len(e.Versions.Fences) != 0 {
		t.Errorf("fences %v behind a clean", e.Versions.Fences)
	}
}

// A clean that has no room leaves all as it was.
func TestCleanWithoutRoom(t *testing.T) {
	for left, fits := range map[int]bool{0: false, 1: false, smallImage - 1: false, smallImage: true, smallImage + 1: true, 16: true} {
		// The last time has no image yet.
		acts := script(fullBut(left), txBegin(2), txScan(2, "q", "r"), txAbort(2))
		was := runDone(t, acts)
		e, replies := engineRun(t, acts, enClean())
		if !fits {
			wantEngine(t, "without room", e, was)
			wantReplies(t, "without room", replies[len(replies)-1:], justCode(impl.ErrFull))
			wantLast(t, "then seen", lastReply(t, acts, txBegin(0), txScan(0, "x", "y")), acts, enClean(), txBegin(0), txScan(0, "x", "y"))
		} else {
			wantReplies(t, "just room", replies[len(replies)-1:], impl.TxReply{})
			if e.Synced != flashSize-left+smallImage || len(e.Flash.Held) != flashSize {
				t.Errorf("%d bytes left: Synced is %d", left, e.Synced)
			}
		}
		wantPlain(t, "room", acts, enClean(), enCrash(0), commits(0, "x"))
	}
	// Where the last time has its image there is always room.
	wantLast(t, "full", impl.TxReply{}, fullBut(0), enClean())
	wantEngine(t, "full", runDone(t, fullBut(0), enClean()), runDone(t, fullBut(0), enSync()))
}

// A clean makes room.
func TestCleanMakesRoom(t *testing.T) {
	full := script(sizedCommit(0, "x", impl.MaxImage), sizedCommit(1, "x", impl.MaxImage))
	wantLast(t, "no room", codeAt(impl.ErrFull, 3), full, sizedCommit(2, "x", impl.MaxImage))
	e := runDone(t, full, enClean(), sizedCommit(2, "x", impl.MaxImage), enClean(), sizedCommit(3, "y", impl.MaxImage))
	if e.Versions.Next != 5 || e.Synced != smallImage+impl.MaxImage {
		t.Errorf("Next %d, Synced %d", e.Versions.Next, e.Synced)
	}
}

func TestSynced(t *testing.T) {
	one, two := len(rawOf(commitOf(1, "a=1"))), len(rawOf(commitOf(1, "a=1"), commitOf(2, "b="+longValue)))
	acts := script(commits(0, "a=1"))
	both := script(acts, commits(1, "b="+longValue))
	for _, c := range []struct {
		name string
		acts []impl.EngineAct
		want int
	}{
		{"nothing", nil, 0},
		{"ahead of a sync", acts, 0},
		{"behind a sync", script(acts, enSync()), one},
		{"two ahead of a sync", both, 0},
		{"two behind a sync", script(both, enSync()), two},
		{"one synced, one not", script(acts, enSync(), both[3:]), one},
		{"both synced by themselves", script(acts, enSync(), both[3:], enSync()), two},
		{"behind a crash that keeps none", script(acts, enSync(), both[3:], enCrash(0)), one},
		{"behind a crash that keeps all", script(acts, enSync(), both[3:], enCrash(16, flags(99, true)...)), two},
		{"behind a crash that keeps some", script(acts, enSync(), both[3:], enCrash(16, flags(3, true)...)), one},
		{"behind a crash of all", script(both, enCrash(0)), 0},
		{"behind a clean, not synced ahead", script(both, enClean()), two},
		{"behind a clean of nothing", script(enClean()), 0},
		{"behind a clean of an aborted time", script(acts, txBegin(0), txAbort(0), enClean()), one + smallImage},
		{"a session open", script(acts, enSync(), txBegin(0), txPut(0, "z", "9")), one},
		{"behind a clean and a commit", script(acts, enClean(), both[3:]), one},
		{"all that there is room for", script(fullBut(0), enSync()), flashSize},
		{"all but one byte", script(fullBut(1), enSync()), flashSize - 1},
	} {
		if e := runDone(t, c.acts); e.Synced != c.want {
			t.Errorf("%s: Synced is %d, want %d", c.name, e.Synced, c.want)
		}
	}
}

func TestRunLimitsOfAnEngine(t *testing.T) {
	var acts []impl.EngineAct
	for len(acts) < impl.MaxList+1 {
		acts = append(acts, enTx(txBegin(len(acts)%4)), enTx(txCommit(len(acts)%4)), enSync())
	}
	e := runDone(t, acts[:impl.MaxScript])
	if e.Versions.Next != 1+impl.MaxScript/3 || e.Synced != impl.MaxScript/3*smallImage {
		t.Errorf("MaxScript acts: Next %d, Synced %d", e.Versions.Next, e.Synced)
	}
	wantNoRun(t, "one more", acts[:impl.MaxScript+1], impl.ErrMany)
	wantNoRun(t, "MaxList", acts[:impl.MaxList], impl.ErrMany)
	wantNoRun(t, "more than MaxList", acts[:impl.MaxList+1], impl.ErrLong)
	// In their order: ErrLong, ErrMany, ErrBad.
	long := impl.EngineAct{Kind: impl.EnSync, Keep: flags(impl.MaxList+1, true)}
	wantNoRun(t, "an act that is too long", script(long), impl.ErrBad)
	wantNoRun(t, "one more, too long", script(long, acts[:impl.MaxScript]), impl.ErrMany)
	wantNoRun(t, "MaxScript, too long at last", script(acts[:impl.MaxScript-1], long), impl.ErrBad)
	wantNoRun(t, "more than MaxList, too long", script(long, acts[:impl.MaxList]), impl.ErrLong)
}

// Texts of MaxText bytes and MaxList flags are taken, of one more an act is
// not, whatever its Kind looks at, and wherever it stands.
func TestOverlongActsOfAnEngine(t *testing.T) {
	text := strings.Repeat("t", impl.MaxText+1)
	before := script(commits(0, "a=1"), txBegin(0), enSync())
	for kind := -1; kind <= 5; kind++ {
		for tx := -1; tx <= 8; tx += 3 {
			for _, session := range []int{-1, 0, 1, 4} {
				whole := impl.EngineAct{Kind: kind, Tx: impl.TxAct{Kind: tx, Session: session}}
				for field := range 4 {
					most, over := whole, whole
					switch field {
					case 0:
						most.Tx.Key, over.Tx.Key = text[1:], text
					case 1:
						most.Tx.To, over.Tx.To = text[1:], text
					case 2:
						most.Tx.Value, over.Tx.Value = text[1:], text
					case 3:
						most.Keep, over.Keep = flags(impl.MaxList, true), flags(impl.MaxList+1, true)
					}
					wantPlain(t, "the most, first", most)
					wantPlain(t, "the most, later", before, most, enSync())
					wantNoRun(t, "one more, first", script(over), impl.ErrBad)
					wantNoRun(t, "one more, later", script(before, over, enSync()), impl.ErrBad)
				}
			}
		}
	}
	wantNoRun(t, "behind other codes", script(txGet(9, ""), impl.EngineAct{}, enCrash(99), txPut(0, text, "")), impl.ErrBad)
	// Keys and values beyond their own limits are told by their acts.
	_, replies := engineRun(t, txBegin(0), txPut(0, tooLongKey, "x"), txPut(0, "k", tooLong), txGet(0, ""), txScan(0, "", tooLongKey), txCommit(0))
	wantReplies(t, "sizes", replies, justTime(1), codeAt(impl.ErrSize, 1), codeAt(impl.ErrSize, 1), codeAt(impl.ErrSize, 1), codeAt(impl.ErrSize, 1), justTime(1))
}

// Each reply has what its act tells, and nothing else.
func TestRepliesOfAnEngine(t *testing.T) {
	_, replies := engineRun(t,
		txGet(0, "a"), txBegin(0), txBegin(0), txPut(0, "a", "1"), txGet(0, "a"), txGet(0, "b"), txScan(0, "", ""), txDrop(0, "b"), enClean(), enSync(),
		txCommit(0), txCommit(0), txBegin(1), txAct(9, 1), txAct(impl.TxGet, 4), txAbort(1), impl.EngineAct{Kind: 9, Tx: txBegin(2)}, enCrash(17), enCrash(16), enClean(),
		txBegin(1), txScan(1, "", ""), txScan(1, "b", ""), txBegin(2), txPut(1, "z", "1"), txScan(2, "", ""), txCommit(1), txCommit(2))
	wantReplies(t, "replies", replies,
		justCode(impl.ErrClosed), justTime(1), justCode(impl.ErrState), justTime(1), valueAt("1", 1), codeAt(impl.ErrNone, 1), listAt(1, "a=1"), justTime(1), justCode(impl.ErrState), impl.TxReply{},
		justTime(1), justCode(impl.ErrClosed), justTime(2), justCode(impl.ErrForm), justCode(impl.ErrRange), justTime(2), justCode(impl.ErrForm), justCode(impl.ErrRange), impl.TxReply{}, impl.TxReply{},
		justTime(1), listAt(1), listAt(1), justTime(2), justTime(1), listAt(2), codeAt(impl.ErrConflict, 1), justTime(2))
}
