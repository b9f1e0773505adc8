package tests

import (
	"slices"
	"strconv"
	"strings"
	"testing"

	"loop.example/g00163/impl"
)

// actLine tells an act of an engine, if a line can: what no word can be is not told.
func actLine(a impl.EngineAct) (string, bool) {
	var words []string
	switch {
	case a.Kind == impl.EnSync:
		words = []string{"sync"}
	case a.Kind == impl.EnClean:
		words = []string{"clean"}
	case a.Kind == impl.EnCrash:
		words = []string{"crash", strconv.Itoa(a.Torn)}
		if flags := flagWord(a.Keep); flags != "" {
			words = append(words, flags)
		}
	case a.Kind == impl.EnTx:
		words = txLine(a.Tx)
	}
	line := strings.Join(words, " ")
	again, code := plainReadAct(line)
	told := code == impl.OK && again.Kind == a.Kind && again.Torn == a.Torn && slices.Equal(again.Keep, a.Keep) && again.Tx == toldTx(a)
	return line, told
}

// toldTx is what a line tells of an act's Tx: what its Kind does not look at is not told.
func toldTx(a impl.EngineAct) impl.TxAct {
	tx := impl.TxAct{}
	if a.Kind == impl.EnTx {
		tx.Kind, tx.Session = a.Tx.Kind, a.Tx.Session
	}
	if tx.Kind >= impl.TxGet && tx.Kind <= impl.TxDrop {
		tx.Key = a.Tx.Key
	}
	if tx.Kind == impl.TxScan {
		tx.To = a.Tx.To
	}
	if tx.Kind == impl.TxPut {
		tx.Value = a.Tx.Value
	}
	return tx
}

func flagWord(keep []bool) string {
	word := ""
	for _, flag := range keep {
		word += map[bool]string{false: "0", true: "1"}[flag]
	}
	return word
}

func txLine(a impl.TxAct) []string {
	for word, kind := range txWords {
		if kind != a.Kind {
			continue
		}
		words := []string{word, strconv.Itoa(a.Session)}
		switch kind {
		case impl.TxGet, impl.TxDrop:
			words = append(words, a.Key)
		case impl.TxPut:
			words = append(words, a.Key, a.Value)
		case impl.TxScan:
			words = append(words, a.Key, a.To)
		}
		return words
	}
	return nil
}

// stretched puts more blanks between a line's words, and around them.
func stretched(next func() uint64, line string) string {
	switch next() % 6 {
	case 0:
		return strings.ReplaceAll(line, " ", "  ")
	case 1:
		return strings.Repeat(" ", int(next()%4)) + line + strings.Repeat(" ", int(next()%4))
	}
	return line
}

// someLine is mostly one of an act that may be done.
func someLine(next func() uint64, some func(next func() uint64, v impl.Versions) impl.EngineAct, v impl.Versions) string {
	switch n := next() % 100; {
	case n < 8:
		return stretched(next, "show")
	case n < 14:
		return silentLines[next()%3]
	case n < 16:
		return "# " + strconv.Itoa(int(next()%999))
	case n < 21:
		return noLines[next()%uint64(len(noLines))]
	}
	for {
		if line, ok := actLine(some(next, v)); ok {
			return stretched(next, line)
		}
	}
}

// someLines are as they come, told to a plain engine that does them.
func someLines(next func() uint64, n int) []string {
	e := plainNothing()
	some := someEngineAct
	if next()%4 == 0 {
		some = fillingAct
	}
	var lines []string
	for range n {
		line := someLine(next, some, e.v)
		lines = append(lines, line)
		e.say(line)
	}
	return lines
}

// What is said is what a plain model says that does the same acts.
func TestRunsOfAConsole(t *testing.T) {
	next := numbers(113)
	seen := map[string]int{}
	for range 250 {
		lines := someLines(next, int(next()%(impl.MaxLines+1)))
		text := textOf(lines...)
		if next()%3 == 0 {
			text = strings.TrimSuffix(text, "\n")
		}
		want, _ := plainConsole(text)
		if got := saidTo(t, text); got != want {
			t.Fatalf("to %q is said %q, want %q", text, got, want)
		}
		e := plainNothing()
		for _, line := range lines {
			words := append(strings.Fields(line), "")
			said, _, _ := strings.Cut(e.say(line), "\n")
			if said != "" && strings.Fields(said)[0] != "error" {
				said = "done"
			}
			seen[words[0]+": "+said]++
		}
	}
	for _, s := range []string{
		"begin: done", "begin: error state", "begin: error range", "get: done", "get: error none", "get: error closed", "get: error size", "scan: done",
		"put: done", "put: error size", "drop: done", "commit: done", "commit: error conflict", "commit: error closed", "commit: error full", "abort: done",
		"sync: done", "crash: done", "crash: error range", "clean: done", "clean: error state", "show: done", ": ", "#: ",
	} {
		if seen[s] < 5 {
			t.Errorf("%q was seen %d times", s, seen[s])
		}
	}
}

// A console says what the replies of an engine that does its acts tell.
func TestAConsoleIsAnEngine(t *testing.T) {
	next := numbers(127)
	for range 60 {
		var acts []impl.EngineAct
		for _, a := range someScript(next, impl.MaxScript) {
			if line, ok := actLine(a); ok {
				again, _ := impl.ReadAct(line)
				acts = append(acts, again)
			}
		}
		e, replies := engineRun(t, acts)
		text, want := "", ""
		for i, a := range acts {
			line, _ := actLine(a)
			said, code := impl.ReplyText(a.Tx.Kind, replies[i])
			if code != impl.OK {
				t.Fatalf("ReplyText of %v has code %d", replies[i], code)
			}
			text, want = text+line+"\n", want+said
		}
		if len(acts) < impl.MaxLines {
			entries, _ := impl.EntriesAt(e.Versions.List, e.Versions.Next)
			text += "show"
			want += plainEntryLines(entries) + "next " + strconv.Itoa(e.Versions.Next) + " held " + strconv.Itoa(len(e.Flash.Held)) + " waiting " + strconv.Itoa(len(e.Flash.Waiting)) + "\n"
		}
		if got := saidTo(t, text); got != want {
			t.Fatalf("said is %q, want %q", got, want)
		}
	}
}

// What is said to the first lines does not hang on those behind them.
func TestFirstLinesDoNotHangOnLaterOnes(t *testing.T) {
	next := numbers(131)
	for range 6 {
		lines := someLines(next, impl.MaxLines)
		e := plainNothing()
		said := ""
		for n, line := range lines {
			beginning := textOf(lines[:n]...)
			if got := saidTo(t, beginning); got != said {
				t.Fatalf("to the first %d lines is said %q, want %q", n, got, said)
			}
			// However it goes on, what was said stays.
			others := someLines(next, int(next()%uint64(impl.MaxLines-n)))
			for _, more := range []string{line, line + "\n", textOf(others...), strings.Join(others, "\n"), "\x00\xff", strings.Repeat("x", 9999), "crash 0\nclean\ncrash 16 1"} {
				if len(plainLines(beginning+more)) > impl.MaxLines {
					continue
				}
				if got := saidTo(t, beginning+more); !strings.HasPrefix(got, said) {
					t.Fatalf("behind more lines to the first %d is said %q, want %q", n, shorten(got), said)
				}
			}
			said += e.say(line)
		}
		if got := saidTo(t, textOf(lines...)); got != said {
			t.Fatalf("to all lines is said %q, want %q", got, said)
		}
	}
}

// Lines that say nothing change nothing of the rest, wherever they stand.
func TestSilentLinesBetweenOthers(t *testing.T) {
	next := numbers(137)
	for range 60 {
		lines := someLines(next, int(next()%100))
		want := saidTo(t, textOf(lines...))
		for range 5 {
			more := slices.Clone(lines)
			for range next() % uint64(impl.MaxLines-len(lines)+1) {
				more = slices.Insert(more, int(next()%uint64(len(more)+1)), silentLines[next()%12])
			}
			if got := saidTo(t, textOf(more...)); got != want {
				t.Fatalf("with silent lines is said %q, want %q", got, want)
			}
		}
		left := slices.DeleteFunc(slices.Clone(lines), func(line string) bool {
			words := strings.Trim(line, " ")
			return words == "" || words[0] == '#'
		})
		if got := saidTo(t, textOf(left...)); got != want {
			t.Fatalf("without silent lines is said %q, want %q", got, want)
		}
	}
}

// Lines that are none change nothing but for what is said to themselves.
func TestLinesThatAreNoneBetweenOthers(t *testing.T) {
	next := numbers(139)
	for range 60 {
		lines := someLines(next, int(next()%100))
		e := plainNothing()
		text, want := "", ""
		for _, line := range lines {
			if next()%3 == 0 {
				text += noLines[next()%uint64(len(noLines))] + "\n"
				want += "error form\n"
			}
			text += line + "\n"
			want += e.say(line)
		}
		if got := saidTo(t, text); got != want {
			t.Fatalf("to %q is said %q, want %q", text, got, want)
		}
	}
}
