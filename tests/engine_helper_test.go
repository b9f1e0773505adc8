package tests

import (
	"slices"
	"strings"
	"testing"

	"loop.example/g00163/impl"
)

func enSync() impl.EngineAct  { return impl.EngineAct{Kind: impl.EnSync} }
func enClean() impl.EngineAct { return impl.EngineAct{Kind: impl.EnClean} }

func enTx(a impl.TxAct) impl.EngineAct {
	return impl.EngineAct{Kind: impl.EnTx, Tx: a}
}

func enCrash(torn int, keep ...bool) impl.EngineAct {
	return impl.EngineAct{Kind: impl.EnCrash, Torn: torn, Keep: keep}
}

// script are acts of an engine, of acts of sessions, acts of the engine, and lists of these.
func script(list ...any) []impl.EngineAct {
	var acts []impl.EngineAct
	for _, one := range list {
		switch a := one.(type) {
		case impl.TxAct:
			acts = append(acts, enTx(a))
		case impl.EngineAct:
			acts = append(acts, a)
		case []impl.TxAct:
			for _, tx := range a {
				acts = append(acts, enTx(tx))
			}
		case []impl.EngineAct:
			acts = append(acts, a...)
		default:
			panic("no act")
		}
	}
	return acts
}

// commits are a session that begins, puts, and commits: KEY=VALUE puts, KEY drops.
func commits(session int, writes ...string) []impl.EngineAct {
	acts := script(txBegin(session))
	for _, w := range writes {
		if key, value, found := strings.Cut(w, "="); found {
			acts = append(acts, enTx(txPut(session, key, value)))
		} else {
			acts = append(acts, enTx(txDrop(session, w)))
		}
	}
	return append(acts, enTx(txCommit(session)))
}

// sizedCommit is a session whose commit has Data of just so many bytes (0, or 4
// and more); its keys begin with a letter.
func sizedCommit(session int, letter string, size int) []impl.EngineAct {
	var writes []string
	for i := 0; size > 0; i++ {
		one := min(size, 3+impl.MaxEntry+impl.MaxValue)
		if rest := size - one; rest > 0 && rest < 5 {
			one -= 5
		}
		value := max(0, min(impl.MaxValue, one-5))
		key := letter + string(rune('a'+i))
		if one == 4 {
			key = letter
		}
		key += strings.Repeat("k", one-3-value-len(key))
		writes = append(writes, key+"="+strings.Repeat("v", value))
		size -= one
	}
	return commits(session, writes...)
}

// engineRun is an engine behind a run that must be taken as a whole.
func engineRun(t *testing.T, list ...any) (impl.Engine, []impl.TxReply) {
	t.Helper()
	acts := script(list...)
	e, replies, code := impl.EngineRun(acts)
	if code != impl.OK || len(replies) != len(acts) {
		t.Fatalf("EngineRun of %d acts has code %d and %d replies", len(acts), code, len(replies))
	}
	return e, replies
}

// runDone is an engine behind acts that must all be done.
func runDone(t *testing.T, list ...any) impl.Engine {
	t.Helper()
	e, replies := engineRun(t, list...)
	if i := slices.IndexFunc(replies, func(r impl.TxReply) bool { return r.Code != impl.OK }); i >= 0 {
		t.Fatalf("act %d has code %d", i, replies[i].Code)
	}
	return e
}

// lastReply is the reply to the last act of a run.
func lastReply(t *testing.T, list ...any) impl.TxReply {
	t.Helper()
	_, replies := engineRun(t, list...)
	return replies[len(replies)-1]
}

func wantLast(t *testing.T, what string, want impl.TxReply, list ...any) {
	t.Helper()
	if got := lastReply(t, list...); !alike(got, want) {
		t.Errorf("%s: the reply is %v, want %v", what, got, want)
	}
}

func wantEngine(t *testing.T, what string, got, want impl.Engine) {
	t.Helper()
	wantVersions(t, what, got.Versions, want.Versions)
	wantBytes(t, what+": held", got.Flash.Held, want.Flash.Held)
	if !sameFlash(got.Flash, want.Flash) {
		t.Errorf("%s: %d sectors wait, want %d, or others", what, len(got.Flash.Waiting), len(want.Flash.Waiting))
	}
	if got.Synced != want.Synced {
		t.Errorf("%s: Synced is %d, want %d", what, got.Synced, want.Synced)
	}
}

// wantNoRun is a run that is not taken.
func wantNoRun(t *testing.T, what string, acts []impl.EngineAct, want int) {
	t.Helper()
	e, replies, code := impl.EngineRun(acts)
	if code != want || len(replies) != 0 || !alike(e, impl.Engine{}) {
		t.Errorf("%s: EngineRun has code %d and %d replies, want code %d", what, code, len(replies), want)
	}
}

// wantPlain asks that a run answers what the plain engine does.
func wantPlain(t *testing.T, what string, list ...any) impl.Engine {
	t.Helper()
	acts := script(list...)
	want, wantAll, wantCode := plainEngineRun(acts)
	got, replies, code := impl.EngineRun(acts)
	if code != wantCode {
		t.Fatalf("%s: EngineRun has code %d, want %d", what, code, wantCode)
	}
	wantReplies(t, what, replies, wantAll...)
	wantEngine(t, what, got, want)
	if code == impl.OK && (!impl.VersionsOK(got.Versions) || !impl.FlashOK(got.Flash)) {
		t.Errorf("%s: the engine is not right", what)
	}
	return got
}

// commitOf is what stands of a commit in a log.
func commitOf(time int, writes ...string) impl.Image {
	var list []impl.Version
	for _, w := range writes {
		if key, value, found := strings.Cut(w, "="); found {
			list = append(list, version(key, time, value))
		} else {
			list = append(list, goneAt(w, time))
		}
	}
	return impl.Image{Id: time, Data: plainBytes(list)}
}

// heldAlone is an engine that holds a log and nothing else, no session open.
func heldAlone(next int, list []impl.Version, log ...impl.Image) impl.Engine {
	raw := rawOf(log...)
	return impl.Engine{Versions: storeOf(next, list, nil), Flash: holding(raw...), Synced: len(raw)}
}
