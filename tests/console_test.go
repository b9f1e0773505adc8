package tests

import (
	"strconv"
	"strings"
	"testing"

	"loop.example/g00163/impl"
)

func TestTextsOfNothing(t *testing.T) {
	for name, text := range map[string]string{
		"nothing":                   "",
		"one byte 10":               "\n",
		"several":                   "\n\n\n",
		"a blank":                   " ",
		"blanks":                    "     ",
		"blanks with a byte 10":     "  \n",
		"blanks behind it":          "\n   ",
		"lines of blanks":           " \n  \n\n   \n",
		"a line aside":              "# begin 0",
		"lines aside":               "#\n # sync\n##\n",
		"as many lines as it takes": strings.Repeat("\n", impl.MaxLines),
		"as many blanks":            strings.Repeat(" ", impl.MaxText),
	} {
		wantSaid(t, name, text, "")
	}
}

// What stands behind the last byte 10 is a line only if it has a byte.
func TestEndOfAText(t *testing.T) {
	for text, want := range map[string]string{
		"begin 0":               "ok 1\n",
		"begin 0\n":             "ok 1\n",
		"begin 0\n\n":           "ok 1\n",
		"begin 0\n ":            "ok 1\n",
		"\nbegin 0":             "ok 1\n",
		"begin 0\nshow":         "ok 1\nnext 2 held 0 waiting 0\n",
		"begin 0\nshow\n":       "ok 1\nnext 2 held 0 waiting 0\n",
		"begin 0\nx":            "ok 1\nerror form\n",
		"begin 0\n\x00":         "ok 1\nerror form\n",
		"begin 0\n#":            "ok 1\n",
		"x":                     "error form\n",
		"x\nx":                  "error form\nerror form\n",
		"begin 0begin 1":        "error form\n",
		"begin\n0":              "error form\nerror form\n",
		"begin 0 \n begin 1":    "ok 1\nok 2\n",
		"begin 0\r\nbegin 1\r":  "error form\nerror form\n",
		"begin 0\rbegin 1\n":    "error form\n",
		"begin 0\x00\nbegin 0":  "error form\nok 1\n",
		"\n\nbegin 3\n\nsync\n": "ok 1\nok\n",
	} {
		wantSaid(t, text, text, want)
	}
}

func TestOneOfEachLine(t *testing.T) {
	wantTalk(t, "each line",
		talk{"begin 0", "ok 1\n"}, talk{"put 0 k v", "ok\n"}, talk{"get 0 k", "value v\n"}, talk{"get 0 l", "error none\n"},
		talk{"scan 0", "k=v\nentries 1\n"}, talk{"drop 0 k", "ok\n"}, talk{"get 0 k", "error none\n"}, talk{"scan 0", "entries 0\n"},
		talk{"put 0 k w", "ok\n"}, talk{"commit 0", "ok 1\n"}, talk{"sync", "ok\n"}, talk{"crash 0", "ok\n"}, talk{"clean", "ok\n"},
		talk{"begin 3", "ok 2\n"}, talk{"get 3 k", "value w\n"}, talk{"abort 3", "ok\n"}, talk{"show", "k=w\nnext 3 held 16 waiting 0\n"})
}

func TestCodesThatAreSaid(t *testing.T) {
	wantTalk(t, "codes",
		talk{"get 0 k", "error closed\n"}, talk{"commit 0", "error closed\n"}, talk{"abort 0", "error closed\n"}, talk{"scan 0", "error closed\n"}, talk{"put 0 k v", "error closed\n"}, talk{"drop 0 k", "error closed\n"},
		talk{"begin 0", "ok 1\n"}, talk{"begin 0", "error state\n"}, talk{"clean", "error state\n"},
		talk{"begin 4", "error range\n"}, talk{"get -1 k", "error range\n"}, talk{"crash 17", "error range\n"},
		talk{"begin 1", "ok 2\n"}, talk{"get 1 k", "error none\n"}, talk{"put 0 k v", "ok\n"}, talk{"commit 0", "error conflict\n"}, talk{"commit 0", "error closed\n"},
		talk{"nothing", "error form\n"}, talk{"show", "next 3 held 0 waiting 0\n"})
	full := []talk{{"begin 2", "ok 1\n"}}
	for i := range impl.MaxWrites {
		full = append(full, talk{"put 2 k" + strconv.Itoa(i) + longKey[2:] + " " + longValue, "ok\n"})
	}
	full = append(full, talk{"put 2 k9 v", "error full\n"}, talk{"drop 2 k9", "error full\n"}, talk{"put 2 k0" + longKey[2:] + " v", "ok\n"}, talk{"put 2 k0" + longKey[2:] + " " + longValue, "ok\n"},
		talk{"commit 2", "error full\n"}, talk{"commit 2", "error closed\n"}, talk{"show", "next 2 held 0 waiting 0\n"})
	wantTalk(t, "no room", full...)
}

// Each session number of a line: what is a number's text is a session's, or
// out of range; what is none makes the line none.
func TestSessionsOfLines(t *testing.T) {
	for word, n := range numbersThatAre {
		begun, said := "error range\n", "error range\n"
		if n >= 0 && n < impl.MaxSessions {
			begun, said = "ok 1\n", "ok\n"
		}
		wantTalk(t, word, talk{"begin " + word, begun}, talk{"put " + word + " k v", said}, talk{"abort " + word, said})
	}
	for _, word := range numbersThatAreNone {
		if strings.Contains(word, "\n") {
			continue
		}
		wantTalk(t, word, talk{"begin 0", "ok 1\n"}, talk{"put " + word + " k v", "error form\n"}, talk{"begin " + word, "error form\n"}, talk{"scan " + word, "error form\n"}, talk{"crash " + word, "error form\n"}, talk{"get 0 k", "error none\n"})
	}
}

func TestLinesThatAreNone(t *testing.T) {
	for _, line := range noLines {
		for _, one := range []string{line, "  " + line, line + "  "} {
			// Nothing is done by it.
			wantTalk(t, line, talk{"begin 0", "ok 1\n"}, talk{"put 0 a 1", "ok\n"}, talk{one, "error form\n"}, talk{"scan 0", "a=1\nentries 1\n"}, talk{"commit 0", "ok 1\n"}, talk{one, "error form\n"}, talk{"show", "a=1\nnext 2 held 0 waiting 1\n"})
		}
	}
}

func TestLinesThatSayNothing(t *testing.T) {
	for _, line := range silentLines {
		wantTalk(t, line, talk{line, ""}, talk{"begin 0", "ok 1\n"}, talk{line, ""}, talk{"put 0 a 1", "ok\n"}, talk{line, ""}, talk{"commit 0", "ok 1\n"}, talk{line, ""}, talk{"show", "a=1\nnext 2 held 0 waiting 1\n"}, talk{line, ""})
	}
	// A later word that begins with # is one like any other.
	wantTalk(t, "later words", talk{"begin 0", "ok 1\n"}, talk{"put 0 # #", "ok\n"}, talk{"put 0 #a b#", "ok\n"}, talk{"get 0 #", "value #\n"}, talk{"scan 0 #", "#=#\n#a=b#\nentries 2\n"}, talk{"sync #", "error form\n"}, talk{"begin #1", "error form\n"}, talk{"drop 0 # #", "error form\n"}, talk{"drop 0 #", "ok\n"}, talk{"scan 0", "#a=b#\nentries 1\n"})
}

func TestWhiteSignsThatAreNoBlanks(t *testing.T) {
	for _, sign := range []string{"\t", "\r", "\v", "\f", "\x00", "\x85", "\xa0", "\xc2\xa0", "\xe2\x80\x83", "\xe3\x80\x80"} {
		wantTalk(t, sign,
			talk{sign, "error form\n"}, talk{"begin" + sign + "0", "error form\n"}, talk{"begin 0" + sign, "error form\n"}, talk{sign + "begin 0", "error form\n"}, talk{sign + "# x", "error form\n"}, talk{"show" + sign, "error form\n"},
			talk{"begin 0", "ok 1\n"}, talk{"put 0 a" + sign + "b " + sign, "ok\n"}, talk{"get 0 a" + sign + "b", "value " + sign + "\n"}, talk{"get 0 a " + sign + "b", "error form\n"}, talk{"get 0 a", "error none\n"})
	}
}

func TestScansOfLines(t *testing.T) {
	wantTalk(t, "scans", talk{"begin 0", "ok 1\n"}, talk{"scan 0", "entries 0\n"},
		talk{"put 0 b 2", "ok\n"}, talk{"put 0 a 1", "ok\n"}, talk{"put 0 c 3", "ok\n"}, talk{"put 0 ab =", "ok\n"},
		talk{"scan 0", "a=1\nab==\nb=2\nc=3\nentries 4\n"}, talk{"scan 0 a", "a=1\nab==\nb=2\nc=3\nentries 4\n"}, talk{"scan 0 b", "b=2\nc=3\nentries 2\n"}, talk{"scan 0 d", "entries 0\n"},
		talk{"scan 0 a b", "a=1\nab==\nentries 2\n"}, talk{"scan 0 aa c", "ab==\nb=2\nentries 2\n"}, talk{"scan 0 b b", "entries 0\n"}, talk{"scan 0 c a", "entries 0\n"},
		talk{"scan 0 a b c", "error form\n"}, talk{"scan 1", "error closed\n"}, talk{"scan 1 a b", "error closed\n"},
		talk{"scan 0 " + longKey, "entries 0\n"}, talk{"scan 0 " + tooLongKey, "error size\n"}, talk{"scan 0 a " + longKey, "a=1\nab==\nb=2\nc=3\nentries 4\n"}, talk{"scan 0 a " + tooLongKey, "error size\n"}, talk{"scan 1 " + tooLongKey, "error closed\n"},
		talk{"commit 0", "ok 1\n"}, talk{"begin 1", "ok 2\n"}, talk{"drop 1 b", "ok\n"}, talk{"scan 1 b", "c=3\nentries 1\n"})
}

func TestKeysAndValuesThatAreTooLong(t *testing.T) {
	far := strings.Repeat("x", impl.MaxText/3)
	wantTalk(t, "sizes", talk{"begin 0", "ok 1\n"},
		talk{"put 0 " + longKey + " " + longValue, "ok\n"}, talk{"get 0 " + longKey, "value " + longValue + "\n"},
		talk{"put 0 " + tooLongKey + " v", "error size\n"}, talk{"put 0 k " + tooLong, "error size\n"}, talk{"get 0 " + tooLongKey, "error size\n"}, talk{"drop 0 " + tooLongKey, "error size\n"}, talk{"drop 1 " + tooLongKey, "error closed\n"},
		talk{"scan 0", longKey + "=" + longValue + "\nentries 1\n"}, talk{"commit 0", "ok 1\n"}, talk{"show", longKey + "=" + longValue + "\nnext 2 held 0 waiting 10\n"})
	for _, line := range []string{"put 0 k ", "put 0 ", "get 0 ", "drop 0 ", "scan 0 ", "scan 0 a "} {
		said := "error size\n"
		if line == "put 0 " {
			said = "error form\n"
		}
		wantTalk(t, "far too long", talk{"begin 0", "ok 1\n"}, talk{line + far, said}, talk{"scan 0", "entries 0\n"})
	}
	wantTalk(t, "far too long", talk{"begin 0", "ok 1\n"}, talk{"put 0 " + far + " v", "error size\n"}, talk{far, "error form\n"}, talk{"#" + far[:99], ""})
}

func TestCrashesOfLines(t *testing.T) {
	before := []talk{{"begin 0", "ok 1\n"}, {"put 0 a 1", "ok\n"}, {"commit 0", "ok 1\n"}, {"begin 1", "ok 2\n"}, {"put 1 b 2", "ok\n"}, {"commit 1", "ok 2\n"}, {"begin 2", "ok 3\n"}, {"put 2 c 3", "ok\n"}}
	const none, first, both = "next 1 held 0 waiting 0\n", "a=1\nnext 2 held 16 waiting 0\n", "a=1\nb=2\nnext 3 held 32 waiting 0\n"
	const was = "a=1\nb=2\nnext 4 held 0 waiting 3\n"
	long := strings.Repeat("1", impl.MaxList)
	for _, c := range []struct{ line, said, show string }{
		{"crash", "error form\n", was},
		{"crash x", "error form\n", was},
		{"crash 16 2", "error form\n", was},
		{"crash 16 11x", "error form\n", was},
		{"crash 16 1-", "error form\n", was},
		{"crash 16 1 1", "error form\n", was},
		{"crash -0 111", "error form\n", was},
		{"crash 016 111", "error form\n", was},
		{"crash -1", "error range\n", was},
		{"crash -1 111", "error range\n", was},
		{"crash 17", "error range\n", was},
		{"crash 17 111", "error range\n", was},
		{"crash 999999999999999999 1", "error range\n", was},
		{"crash -999999999999999999 1", "error range\n", was},
		{"crash 17 2", "error form\n", was},
		{"crash 0", "ok\n", none},
		{"crash 16", "ok\n", none},
		{"crash 16 0", "ok\n", none},
		{"crash 16 000", "ok\n", none},
		{"crash 16 1", "ok\n", first},
		{"crash 14 1", "ok\n", first},
		{"crash 13 1", "ok\n", none},
		{"crash 0 1", "ok\n", none},
		{"crash 16 11", "ok\n", first},
		{"crash 16 101", "ok\n", first},
		{"crash 16 011", "ok\n", both},
		{"crash 16 111", "ok\n", both},
		{"crash 16 1110000", "ok\n", both},
		{"crash 16 1111111", "ok\n", both},
		{"crash 0 111", "ok\n", first},
		{"crash 12 111", "ok\n", both},
		{"crash 11 111", "ok\n", first},
		{"crash 16 " + long, "ok\n", both},
		{"crash 16 " + long + "1", "ok\n", both},
		{"crash 16 " + long + long, "ok\n", both},
		{"crash 16 000" + long, "ok\n", none},
		{"crash 16 " + long + "2", "error form\n", was},
		{"crash 17 " + long + "1", "error range\n", was},
	} {
		wantTalk(t, c.line, append(before[:len(before):len(before)], talk{c.line, c.said}, talk{"show", c.show})...)
		if c.said == "ok\n" {
			wantTalk(t, c.line, append(before[:len(before):len(before)], talk{c.line, c.said}, talk{"get 2 c", "error closed\n"}, talk{"clean", "ok\n"}, talk{"show", c.show})...)
		}
	}
}

func TestShow(t *testing.T) {
	wantTalk(t, "of nothing", talk{"show", "next 1 held 0 waiting 0\n"}, talk{"  show ", "next 1 held 0 waiting 0\n"}, talk{"show x", "error form\n"}, talk{"show show", "error form\n"}, talk{"show #", "error form\n"}, talk{"show 0", "error form\n"})
	wantTalk(t, "each step",
		// What is not committed is not there, a time that was given counts.
		talk{"begin 0", "ok 1\n"}, talk{"show", "next 2 held 0 waiting 0\n"}, talk{"put 0 b 2", "ok\n"}, talk{"put 0 a 1", "ok\n"}, talk{"show", "next 2 held 0 waiting 0\n"},
		talk{"commit 0", "ok 1\n"}, talk{"show", "a=1\nb=2\nnext 2 held 0 waiting 2\n"}, talk{"sync", "ok\n"}, talk{"show", "a=1\nb=2\nnext 2 held 32 waiting 0\n"},
		// A version that is Gone is none; the last sector of the first commit waits again.
		talk{"begin 1", "ok 2\n"}, talk{"drop 1 a", "ok\n"}, talk{"put 1 c 3", "ok\n"}, talk{"commit 1", "ok 2\n"}, talk{"show", "b=2\nc=3\nnext 3 held 32 waiting 2\n"},
		// What was not synced is lost, its time too.
		talk{"crash 0", "ok\n"}, talk{"show", "a=1\nb=2\nnext 2 held 32 waiting 0\n"},
		talk{"begin 1", "ok 2\n"}, talk{"drop 1 a", "ok\n"}, talk{"drop 1 z", "ok\n"}, talk{"commit 1", "ok 2\n"}, talk{"show", "b=2\nnext 3 held 32 waiting 2\n"},
		// A clean leaves b alone, and an image of the last time.
		talk{"clean", "ok\n"}, talk{"show", "b=2\nnext 3 held 32 waiting 0\n"}, talk{"crash 16 1", "ok\n"}, talk{"show", "b=2\nnext 3 held 32 waiting 0\n"},
		talk{"begin 0", "ok 3\n"}, talk{"drop 0 b", "ok\n"}, talk{"commit 0", "ok 3\n"}, talk{"show", "next 4 held 32 waiting 2\n"}, talk{"clean", "ok\n"}, talk{"show", "next 4 held 16 waiting 0\n"})
	// Versions of later times are there too: show has all up to Next.
	wantTalk(t, "the later time first", talk{"begin 0", "ok 1\n"}, talk{"begin 1", "ok 2\n"}, talk{"put 1 k 2", "ok\n"}, talk{"put 0 l 1", "ok\n"}, talk{"commit 1", "ok 2\n"}, talk{"show", "k=2\nnext 3 held 0 waiting 1\n"}, talk{"commit 0", "ok 1\n"}, talk{"show", "k=2\nl=1\nnext 3 held 0 waiting 3\n"})
	// It leaves no fence.
	wantTalk(t, "no fence", talk{"begin 0", "ok 1\n"}, talk{"begin 1", "ok 2\n"}, talk{"show", "next 3 held 0 waiting 0\n"}, talk{"put 0 k 1", "ok\n"}, talk{"commit 0", "ok 1\n"})
}

// manyLines are lines whose numbers rise: each one tells what was done ahead.
func manyLines(n int) []string {
	lines := []string{}
	for i := range n {
		lines = append(lines, []string{"begin 0", "put 0 k" + strconv.Itoa(i) + " v", "abort 0"}[i%3])
	}
	return lines
}

func TestMaxLinesOfAText(t *testing.T) {
	most := textOf(manyLines(impl.MaxLines)...)
	want := ""
	for i := range impl.MaxLines / 3 {
		want += "ok " + strconv.Itoa(i+1) + "\nok\nok\n"
	}
	wantSaid(t, "MaxLines", most, want)
	wantSaid(t, "MaxLines, the last one not ended", strings.TrimSuffix(most, "\n"), want)
	wantSaid(t, "one less", textOf(manyLines(impl.MaxLines-1)...), strings.TrimSuffix(want, "ok\n"))
	for name, more := range map[string]string{"an act": "sync", "none": "x", "a byte 10": "\n", "a blank": " ", "#": "#", "show and a byte 10": "show\n", "\\x00": "\x00"} {
		wantNoConsole(t, "one more: "+name, most+more, impl.ErrMany)
	}
	// Those that say nothing count.
	for _, silent := range []string{"", " ", "# x"} {
		lines := manyLines(impl.MaxLines)
		all := append(lines[:75:75], silent)
		all = append(all, lines[75:]...)
		wantSaid(t, "MaxLines, one silent", textOf(all[:impl.MaxLines]...), strings.TrimSuffix(want, "ok\n"))
		wantNoConsole(t, "one more, one silent", textOf(all...), impl.ErrMany)
		wantNoConsole(t, "one more, all silent", strings.Repeat(silent+"\n", impl.MaxLines+1), impl.ErrMany)
		wantSaid(t, "MaxLines, all silent", strings.Repeat(silent+"\n", impl.MaxLines), "")
	}
	wantNoConsole(t, "as many as there may be", strings.Repeat("\n", impl.MaxText), impl.ErrMany)
}

func TestMaxTextOfAText(t *testing.T) {
	head := "begin 0\nput 0 a 1\ncommit 0\n"
	const want = "ok 1\nok\nok 1\n"
	fill := strings.Repeat(" ", impl.MaxText)
	wantSaid(t, "MaxText blanks", fill, "")
	wantSaid(t, "MaxText, a silent line", head+fill[len(head):], want)
	wantSaid(t, "MaxText, an ended one", head+fill[len(head)+1:]+"\n", want)
	wantSaid(t, "MaxText, an act at the end", head+fill[len(head)+4:]+"show", want+"a=1\nnext 2 held 0 waiting 1\n")
	wantSaid(t, "MaxText, a comment", head+"#"+fill[len(head)+1:], want)
	wantSaid(t, "MaxText, one word", strings.Repeat("x", impl.MaxText), "error form\n")
	wantSaid(t, "MaxText, flags", head+"crash 16 "+strings.Repeat("1", impl.MaxText-len(head)-9), want+"ok\n")
	wantNoConsole(t, "one more", fill+" ", impl.ErrLong)
	wantNoConsole(t, "one more, an act", head+fill[len(head)-1:], impl.ErrLong)
	wantNoConsole(t, "one more byte 10", head+fill[len(head):]+"\n", impl.ErrLong)
	wantNoConsole(t, "one word more", strings.Repeat("x", impl.MaxText+1), impl.ErrLong)
	// Ahead of the count of lines.
	wantNoConsole(t, "both", strings.Repeat("\n", impl.MaxText+1), impl.ErrLong)
	wantNoConsole(t, "just too many", strings.Repeat("\n", impl.MaxText), impl.ErrMany)
}

// The times of sessions, conflicts and fences, told by a console.
func TestSessionsOfAConsole(t *testing.T) {
	wantTalk(t, "two sessions",
		talk{"begin 0", "ok 1\n"}, talk{"begin 1", "ok 2\n"}, talk{"begin 2", "ok 3\n"}, talk{"begin 3", "ok 4\n"},
		talk{"put 0 x 0", "ok\n"}, talk{"put 1 x 1", "ok\n"}, talk{"get 1 x", "value 1\n"}, talk{"get 2 x", "error none\n"},
		talk{"commit 1", "error conflict\n"}, talk{"put 3 x 3", "ok\n"}, talk{"commit 3", "ok 4\n"}, talk{"commit 0", "error conflict\n"},
		talk{"get 2 x", "error none\n"}, talk{"scan 2", "entries 0\n"}, talk{"put 2 y 2", "ok\n"}, talk{"scan 2", "y=2\nentries 1\n"}, talk{"commit 2", "ok 3\n"},
		talk{"begin 0", "ok 5\n"}, talk{"scan 0", "x=3\ny=2\nentries 2\n"}, talk{"abort 0", "ok\n"},
		talk{"sync", "ok\n"}, talk{"crash 0", "ok\n"}, talk{"begin 0", "ok 5\n"}, talk{"scan 0", "x=3\ny=2\nentries 2\n"})
}
