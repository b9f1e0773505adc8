package tests

import (
	"math"
	"slices"
	"strings"
	"testing"

	"loop.example/g00163/impl"
)

func TestRunOfNothing(t *testing.T) {
	e, replies := engineRun(t)
	wantEngine(t, "nothing", e, impl.Engine{Versions: storeOf(1, nil, nil)})
	wantReplies(t, "nothing", replies)
	for _, a := range []impl.EngineAct{enSync(), enCrash(0), enCrash(16, true), enClean()} {
		e, replies = engineRun(t, a)
		wantEngine(t, "one act on nothing", e, impl.Engine{Versions: storeOf(1, nil, nil)})
		wantReplies(t, "one act on nothing", replies, impl.TxReply{})
	}
}

func TestKindsOfAnEngineThatAreNone(t *testing.T) {
	before := script(commits(0, "a=1"), txBegin(1), txPut(1, "b", "2"))
	want := runDone(t, before)
	for _, kind := range []int{math.MinInt, -1, 0, 5, 6, 255, 257, math.MaxInt} {
		for _, a := range []impl.EngineAct{
			{Kind: kind},
			{Kind: kind, Torn: 99, Tx: txCommit(1), Keep: flags(9, true)},
			{Kind: kind, Tx: longAct(impl.TxPut, 1)},
		} {
			e, replies := engineRun(t, before, a)
			wantEngine(t, "no Kind", e, want)
			wantReplies(t, "no Kind", replies[len(replies)-1:], justCode(impl.ErrForm))
		}
	}
}

// What a commit leaves: versions as of its session, an image that waits.
func TestACommitIsLogged(t *testing.T) {
	e := runDone(t, commits(0, "b=xy", "a"))
	log := rawOf(commitOf(1, "a", "b=xy"))
	wantEngine(t, "one", e, impl.Engine{
		Versions: storeOf(2, versions(goneAt("a", 1), version("b", 1, "xy")), nil),
		Flash:    impl.Flash{Waiting: waitingOf(0, log)},
	})
	e = runDone(t, commits(0, "b=xy", "a"), enSync())
	wantEngine(t, "one, synced", e, heldAlone(2, e.Versions.List, commitOf(1, "a", "b=xy")))
	// The second begins within the sector where the first ends: that one waits again.
	e = runDone(t, commits(0, "a=1"), commits(3, "b=2"))
	first, both := rawOf(commitOf(1, "a=1")), joined(rawOf(commitOf(1, "a=1"), commitOf(2, "b=2")))
	wantEngine(t, "two", e, impl.Engine{
		Versions: storeOf(3, versions(version("a", 1, "1"), version("b", 2, "2")), nil),
		Flash:    impl.Flash{Waiting: slices.Concat(waitingOf(0, first), waitingOf(0, both))},
	})
	// Synced counts what is held alone.
	e = runDone(t, commits(0, "a=1"), enSync(), commits(3, "b=2"))
	wantEngine(t, "two, one synced", e, impl.Engine{
		Versions: e.Versions, Synced: len(first),
		Flash: impl.Flash{Held: joined(first), Waiting: waitingOf(0, both)},
	})
	// The order of the log is that of the commits, not of the times.
	e = runDone(t, txBegin(0), txBegin(1), txPut(0, "a", "1"), txPut(1, "b", "2"), txCommit(1), enSync(), txCommit(0), enSync())
	wantEngine(t, "the later time first", e, heldAlone(3, versions(version("a", 1, "1"), version("b", 2, "2")), commitOf(2, "b=2"), commitOf(1, "a=1")))
}

func TestACommitWithoutWrites(t *testing.T) {
	e, replies := engineRun(t, txBegin(2), txCommit(2), enSync())
	wantReplies(t, "no writes", replies, justTime(1), justTime(1), impl.TxReply{})
	wantEngine(t, "no writes", e, heldAlone(2, nil, commitOf(1)))
	// It is there behind a crash: its time is not given again.
	wantLast(t, "then begun", justTime(2), txBegin(2), txCommit(2), enSync(), enCrash(0), txBegin(0))
	wantLast(t, "not synced, then begun", justTime(1), txBegin(2), txCommit(2), enCrash(0), txBegin(0))
	// An abort is not.
	e = runDone(t, txBegin(2), txPut(2, "a", "1"), txAbort(2), enSync())
	wantEngine(t, "an abort", e, impl.Engine{Versions: storeOf(2, nil, nil)})
	wantLast(t, "aborted, then begun", justTime(1), txBegin(2), txAbort(2), enSync(), enCrash(0), txBegin(0))
}

// A commit that conflicts closes its session, and nothing of it is written.
func TestACommitThatConflictsIsNotLogged(t *testing.T) {
	before := script(commits(2, "k=0"), enSync(), txBegin(0), txBegin(1), txPut(0, "k", "1"), txPut(0, "a", "1"), txGet(1, "k"))
	was := runDone(t, before)
	e, replies := engineRun(t, before, txCommit(0))
	was.Versions.Sessions[0] = impl.Session{}
	wantEngine(t, "a fence", e, was)
	wantReplies(t, "a fence", replies[len(replies)-1:], codeAt(impl.ErrConflict, 2))
	wantLast(t, "then closed", justCode(impl.ErrClosed), before, txCommit(0), txCommit(0))
	before = script(txBegin(0), txPut(0, "k", "1"), commits(1, "k=2"))
	was = runDone(t, before)
	e, _ = engineRun(t, before, txCommit(0))
	was.Versions.Sessions[0] = impl.Session{}
	wantEngine(t, "a later version", e, was)
	// Too great as well: what conflicts is told first.
	wantLast(t, "too great as well", codeAt(impl.ErrConflict, 1), txBegin(0), greatWrites(0, "a"), txBegin(1), txScan(1, "", ""), txCommit(0))
}

// greatWrites are puts whose commit has more than MaxImage bytes of Data.
func greatWrites(session int, letter string) []impl.EngineAct {
	whole := sizedCommit(session, letter, impl.MaxImage+1)
	return whole[1 : len(whole)-1]
}

func TestACommitOfTooManyBytes(t *testing.T) {
	before := script(commits(3, "a=old"), enSync(), txBegin(0), txGet(0, "a"), txScan(0, "b", "c"), txBegin(1), txPut(1, "z", "1"))
	was := runDone(t, before)
	e, replies := engineRun(t, before, greatWrites(0, "a"), txCommit(0))
	was.Versions.Sessions[0] = impl.Session{}
	wantEngine(t, "one byte too many", e, was)
	wantReplies(t, "one byte too many", replies[len(replies)-1:], codeAt(impl.ErrFull, 2))
	wantLast(t, "then closed", justCode(impl.ErrClosed), before, greatWrites(0, "a"), txCommit(0), txGet(0, "a"))
	wantLast(t, "then begun", justTime(4), before, greatWrites(0, "a"), txCommit(0), txBegin(0))
	wantLast(t, "nothing is seen", listAt(4, "a=old"), before, greatWrites(0, "a"), txCommit(0), txBegin(0), txScan(0, "", ""))
	wantLast(t, "nothing stands in the way", justTime(3), before, greatWrites(0, "z"), txCommit(0), txCommit(1))
	wantLast(t, "nothing is there behind a crash", listAt(2, "a=old"), before, greatWrites(0, "a"), txCommit(0), enSync(), enCrash(0), txBegin(0), txScan(0, "", ""))
	fits := runDone(t, sizedCommit(0, "a", impl.MaxImage))
	if len(fits.Flash.Waiting) != 64 || len(fits.Versions.List) != 7 {
		t.Errorf("MaxImage bytes: %d sectors wait, %d versions", len(fits.Flash.Waiting), len(fits.Versions.List))
	}
	eight := script(txBegin(0))
	for i := range impl.MaxWrites {
		eight = append(eight, enTx(txPut(0, string(rune('a'+i))+longKey[1:], longValue)))
	}
	wantLast(t, "MaxWrites of the greatest", codeAt(impl.ErrFull, 1), eight, txCommit(0))
}

// fullBut are acts that leave so many bytes of the device without an image.
func fullBut(left int) []impl.EngineAct {
	rest := flashSize - 3*smallImage - impl.MaxImage - 500 - left
	return slices.Concat(sizedCommit(0, "x", impl.MaxImage), sizedCommit(0, "y", 500), sizedCommit(0, "z", rest))
}

func TestACommitWithoutRoom(t *testing.T) {
	for _, c := range []struct {
		name       string
		left, size int
		fits       bool
	}{
		{"just room", 30, 21, true},
		{"one byte too few", 30, 22, false},
		{"no writes, just room", smallImage, 0, true},
		{"no writes, one byte too few", smallImage - 1, 0, false},
		{"full", 40, 31, true},
		{"no writes, no room at all", 0, 0, false},
		{"far too few", 100, impl.MaxImage, false},
	} {
		for _, between := range [][]impl.EngineAct{nil, {enSync()}, {enSync(), enCrash(0)}} {
			before := script(fullBut(c.left), between)
			was := runDone(t, before)
			next := was.Versions.Next
			e, replies := engineRun(t, before, sizedCommit(1, "c", c.size))
			reply := justTime(next)
			if !c.fits {
				reply.Code = impl.ErrFull
				was.Versions.Next++
				wantEngine(t, c.name, e, was)
			}
			wantReplies(t, c.name, replies[len(replies)-1:], reply)
			if held, _ := impl.FlashRead(e.Flash); c.fits && len(held) != flashSize {
				t.Errorf("%s: %d bytes are read", c.name, len(held))
			}
			wantLast(t, c.name+", then closed", justCode(impl.ErrClosed), before, sizedCommit(1, "c", c.size), txCommit(1))
			wantPlain(t, c.name, before, sizedCommit(1, "c", c.size), enSync(), enCrash(0), commits(0))
		}
	}
	// A smaller one still fits behind one that does not.
	wantPlain(t, "then a smaller one", fullBut(30), sizedCommit(1, "c", 22), sizedCommit(1, "c", 21), enSync(), enCrash(3))
	wantLast(t, "then a smaller one", justTime(5), fullBut(30), sizedCommit(1, "c", 22), sizedCommit(1, "c", 21))
	// Fences of the session that had no room are those of its looks, and stay.
	e, _ := engineRun(t, fullBut(0), txBegin(1), txGet(1, "x"), txCommit(1))
	if !slices.Equal(e.Versions.Fences, fences(fence("x", "x\x00", 4))) {
		t.Errorf("fences of a session without room: %v", e.Versions.Fences)
	}
}

// Two commits wait, in three sectors, or the first is synced, or both are:
// whatever is kept, and however it is torn.
func TestCrashesOfTwoCommits(t *testing.T) {
	one, two := commitOf(1, "a=1"), commitOf(2, "b=2")
	a, b := version("a", 1, "1"), version("b", 2, "2")
	first, both := rawOf(one), rawOf(one, two)
	for synced := range 3 {
		acts := script(commits(0, "a=1"), commits(1, "b=2"))
		if synced > 0 {
			acts = slices.Insert(acts, 3*synced, enSync())
		}
		before := runDone(t, acts)
		for kept := range 1 << 4 {
			keep := []bool{kept&1 > 0, kept&2 > 0, kept&4 > 0, kept&8 > 0}
			for torn := range impl.SectorSize + 1 {
				held := crash(t, before.Flash, torn, keep...)
				e, replies := engineRun(t, acts, enCrash(torn, keep...))
				wantReplies(t, "a crash", replies[len(replies)-1:], impl.TxReply{})
				want := impl.Engine{Versions: storeOf(1, nil, nil)}
				switch {
				case strings.HasPrefix(string(held), string(both)):
					want = heldAlone(3, versions(a, b), one, two)
				case strings.HasPrefix(string(held), string(first)):
					want = heldAlone(2, versions(a), one)
				}
				wantEngine(t, "a crash", e, want)
				if wantNext := []int{1, 2, 3}[synced]; e.Versions.Next < wantNext {
					t.Errorf("synced %d, kept %v, torn %d: Next is %d", synced, keep, torn, e.Versions.Next)
				}
			}
		}
	}
}

// What is there behind a crash, said one by one. The sectors that wait: that of
// the first commit, it again with the beginning of the second, the rest.
func TestWhatIsThereBehindACrash(t *testing.T) {
	acts := script(commits(0, "a=1"), commits(1, "b=2"))
	for _, c := range []struct {
		name  string
		crash impl.EngineAct
		next  int
	}{
		{"none kept", enCrash(16), 1},
		{"no flag set", enCrash(16, false, false, false), 1},
		{"fewer flags", enCrash(16, true), 2},
		{"fewer flags, the first two", enCrash(16, true, true), 2},
		{"all kept", enCrash(16, true, true, true), 3},
		{"all kept, more flags", enCrash(16, true, true, true, true, true), 3},
		{"more flags, none of those that wait", enCrash(16, false, false, false, true), 1},
		{"MaxList flags", enCrash(16, flags(impl.MaxList, true)...), 3},
		{"all kept, the last torn at its end", enCrash(12, true, true, true), 3},
		{"all kept, the last torn at 15", enCrash(15, true, true, true), 3},
		{"all kept, the last torn just ahead of its end", enCrash(11, true, true, true), 2},
		{"all kept, the last torn at 1", enCrash(1, true, true, true), 2},
		{"all kept, the last torn at 0", enCrash(0, true, true, true), 2},
		{"the first kept, torn just behind its image", enCrash(14, true), 2},
		{"the first kept, torn just ahead of the end", enCrash(13, true), 1},
		{"the first kept, torn at 1", enCrash(1, true), 1},
		{"the first kept, torn at 0", enCrash(0, true), 1},
		{"without the first", enCrash(16, false, true, true), 3},
		{"without the second", enCrash(16, true, false, true), 2},
		{"the last alone", enCrash(16, false, false, true), 1},
		{"the second over the first, torn between", enCrash(7, true, true), 2},
		{"the second alone, torn at 15", enCrash(15, false, true), 2},
		{"the second alone, torn at 13", enCrash(13, false, true), 1},
	} {
		e := runDone(t, acts, c.crash)
		log := []impl.Image{commitOf(1, "a=1"), commitOf(2, "b=2")}[:c.next-1]
		list := versions(version("a", 1, "1"), version("b", 2, "2"))[:c.next-1]
		wantEngine(t, c.name, e, heldAlone(c.next, list, log...))
		// Their times are given again.
		wantLast(t, c.name, justTime(c.next), acts, c.crash, txBegin(3))
	}
}

func TestTornOfACrash(t *testing.T) {
	before := script(commits(0, "a=1"), enSync(), commits(1, "b=2"), txBegin(2), txPut(2, "c", "3"))
	was := runDone(t, before)
	for _, torn := range []int{math.MinInt, -1, impl.SectorSize + 1, math.MaxInt} {
		for _, keep := range [][]bool{nil, {true, true, true}} {
			e, replies := engineRun(t, before, enCrash(torn, keep...))
			wantEngine(t, "no Torn", e, was)
			wantReplies(t, "no Torn", replies[len(replies)-1:], justCode(impl.ErrRange))
		}
	}
	for _, torn := range []int{0, 1, 15, 16} {
		e := runDone(t, before, enCrash(torn))
		wantEngine(t, "none kept", e, heldAlone(2, versions(version("a", 1, "1")), commitOf(1, "a=1")))
	}
	// Other acts do not look at it, nor at flags; a crash does not look at Tx.
	for _, a := range []impl.EngineAct{
		{Kind: impl.EnSync, Torn: -1, Keep: flags(3, true), Tx: longAct(9, 9)},
		{Kind: impl.EnTx, Torn: 17, Tx: txGet(2, "c"), Keep: flags(3, true)},
		{Kind: impl.EnCrash, Tx: txCommit(2)},
		{Kind: impl.EnCrash, Tx: longAct(-1, -1), Torn: 3, Keep: flags(1, true)},
	} {
		wantPlain(t, "other fields", before, a)
	}
}

func TestSessionsThatWereOpenAtACrash(t *testing.T) {
	before := script(txBegin(0), txPut(0, "a", "1"), txGet(0, "z"), txBegin(3), commits(1, "b=2"), txScan(3, "", ""), enSync())
	e := runDone(t, script(txBegin(0), txPut(0, "a", "1"), txBegin(3), commits(1, "b=2"), txScan(3, "", ""), enSync(), enCrash(0)))
	wantEngine(t, "open ones", e, heldAlone(4, versions(version("b", 3, "2")), commitOf(3, "b=2")))
	for session := range impl.MaxSessions {
		for _, kind := range txKinds {
			wantLast(t, "closed", justCode(impl.ErrClosed), before, enCrash(0), impl.TxAct{Kind: kind, Session: session, Key: "a"})
		}
		wantLast(t, "begun", justTime(4), before, enCrash(0), txBegin(session))
	}
	// No fence of theirs stands in the way of one that has their time again.
	acts := script(txBegin(0), txBegin(1), txScan(1, "", ""), enCrash(0), txBegin(0), txPut(0, "a", "1"), txCommit(0))
	wantLast(t, "without fences", justTime(1), acts)
	// What it had written is not there.
	wantLast(t, "without writes", listAt(4, "b=2"), before, enCrash(0), txBegin(0), txScan(0, "", ""))
}

// A commit that is lost has left its time to another one: what is there in the
// end is that one's alone.
func TestTimesThatAreGivenAgain(t *testing.T) {
	acts := script(commits(0, "a=1"), enSync(), commits(0, "b=lost", "c=lost"), enCrash(0), commits(0, "b=new"), enSync(), enCrash(0))
	want := heldAlone(3, versions(version("a", 1, "1"), version("b", 2, "new")), commitOf(1, "a=1"), commitOf(2, "b=new"))
	wantEngine(t, "another one", runDone(t, acts), want)
	// Bytes of a lost commit that were kept behind the tear do not come back.
	long := "c=" + strings.Repeat("c", 40)
	acts = script(commits(0, "a=1"), commits(0, long), commits(0, "z=9"), enCrash(16, false, false, true, true, true, true, true, true, true),
		commits(0, "a=1"), commits(0, "c="+strings.Repeat("d", 40)), enSync(), enCrash(0))
	want = heldAlone(3, versions(version("a", 1, "1"), version("c", 2, strings.Repeat("d", 40))), commitOf(1, "a=1"), commitOf(2, "c="+strings.Repeat("d", 40)))
	wantEngine(t, "behind the tear", runDone(t, acts), want)
	// Nor does a whole image that stood behind one that was lost.
	lost := script(commits(0, "aaaaaa=1"), commits(0, "b=2"))
	e := runDone(t, lost)
	if len(e.Flash.Waiting) != 4 {
		t.Fatalf("%d sectors wait", len(e.Flash.Waiting))
	}
	for kept := range 1 << 4 {
		keep := []bool{kept&1 > 0, kept&2 > 0, kept&4 > 0, kept&8 > 0}
		for torn := range impl.SectorSize + 1 {
			first := runDone(t, lost, enCrash(torn, keep...)).Versions
			want := slices.Insert(first.List, min(1, len(first.List)), version("aaaaaa", first.Next, "7"))
			e := runDone(t, lost, enCrash(torn, keep...), commits(0, "aaaaaa=7"), enSync(), enCrash(0))
			wantVersions(t, "an image behind", e.Versions, storeOf(first.Next+1, want, nil))
		}
	}
}

func TestTwoCrashes(t *testing.T) {
	acts := script(commits(0, "a=1"), enSync(), commits(1, "b=2"), commits(2, "c=3"))
	for _, first := range []impl.EngineAct{enCrash(0), enCrash(16, true), enCrash(16, true, true), enCrash(16, flags(9, true)...), enCrash(5, flags(9, true)...)} {
		once := runDone(t, acts, first)
		for _, second := range []impl.EngineAct{enCrash(0), enCrash(16, flags(9, true)...), enCrash(7, true)} {
			wantEngine(t, "two crashes", runDone(t, acts, first, second), once)
			wantEngine(t, "a sync between", runDone(t, acts, first, enSync(), second), once)
		}
	}
	// The second one loses what came behind the first.
	e := runDone(t, acts, enCrash(0), commits(3, "d=4"), enCrash(0))
	wantEngine(t, "lost behind the first", e, heldAlone(2, versions(version("a", 1, "1")), commitOf(1, "a=1")))
	e = runDone(t, acts, enCrash(0), commits(3, "d=4"), enSync(), commits(3, "e=5"), enCrash(0))
	wantEngine(t, "synced behind the first", e, heldAlone(3, versions(version("a", 1, "1"), version("d", 2, "4")), commitOf(1, "a=1"), commitOf(2, "d=4")))
}

// What is there behind a crash is what Recover makes of the device behind
// FlashCrash, and of the engine's device then.
func TestACrashRecovers(t *testing.T) {
	acts := script(commits(0, "a=1", "b=2"), commits(1, "a", "c=3"), enSync(), commits(2, "c=4"), commits(3, longKey+"="+longValue), commits(0))
	before := runDone(t, acts)
	for kept := range 1 << 10 {
		var keep []bool
		for i := range 16 {
			keep = append(keep, kept>>(i%10)&1 > 0)
		}
		torn := kept % 17
		crashed, _ := impl.FlashCrash(before.Flash, keep, torn)
		v, n, code := impl.Recover(crashed)
		e := runDone(t, acts, enCrash(torn, keep...))
		wantVersions(t, "a crash", e.Versions, v)
		again, n2, code2 := impl.Recover(e.Flash)
		wantVersions(t, "recovered again", again, v)
		if code != impl.OK || code2 != impl.OK || n != n2 || n < 2 {
			t.Fatalf("%d images, then %d, codes %d and %d", n, n2, code, code2)
		}
		if list, at, _ := impl.ScanImages(e.Flash.Held); len(list) != n || at != e.Synced || len(e.Flash.Held) != (at+15)/16*16 {
			t.Fatalf("%d images of %d, %d bytes held, Synced %d", len(list), n, len(e.Flash.Held), e.Synced)
		}
	}
}
