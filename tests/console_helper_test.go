package tests

import (
	"strings"
	"testing"

	"loop.example/g00163/impl"
)

// textOf are lines that are ended by a byte 10 each.
func textOf(lines ...string) string {
	text := ""
	for _, line := range lines {
		text += line + "\n"
	}
	return text
}

// saidTo is what is said to a text that must be taken.
func saidTo(t *testing.T, text string) string {
	t.Helper()
	said, code := impl.Console(text)
	if code != impl.OK {
		t.Fatalf("Console(%q) has code %d", shorten(text), code)
	}
	return said
}

func wantSaid(t *testing.T, what, text, want string) {
	t.Helper()
	if got := saidTo(t, text); got != want {
		t.Errorf("%s: said is %q, want %q", what, got, want)
	}
	if plain, _ := plainConsole(text); plain != want {
		t.Errorf("%s: the plain console says %q, want %q", what, plain, want)
	}
}

func wantNoConsole(t *testing.T, what, text string, want int) {
	t.Helper()
	if said, code := impl.Console(text); said != "" || code != want {
		t.Errorf("%s: Console has code %d and says %q, want code %d", what, code, shorten(said), want)
	}
}

// talk is a line and what is said to it.
type talk struct{ line, said string }

// wantTalk asks what is said to each line, those ahead of it done.
func wantTalk(t *testing.T, what string, talks ...talk) {
	t.Helper()
	text, want := "", ""
	for _, one := range talks {
		text += one.line + "\n"
		want += one.said
		if got := saidTo(t, text); got != want {
			t.Errorf("%s: behind %q all that is said is %q, want %q", what, shorten(one.line), got, want)
			return
		}
	}
	if plain, _ := plainConsole(text); plain != want {
		t.Errorf("%s: the plain console says %q, want %q", what, plain, want)
	}
}

func wantAct(t *testing.T, line string, want impl.EngineAct) {
	t.Helper()
	got, code := impl.ReadAct(line)
	if code != impl.OK || !alike(got, want) {
		t.Errorf("ReadAct(%q) is %v with code %d, want %v", shorten(line), got, code, want)
	}
	if plain, code := plainReadAct(line); code != impl.OK || !alike(plain, want) {
		t.Errorf("%q is plainly %v with code %d, want %v", shorten(line), plain, code, want)
	}
}

func wantNoAct(t *testing.T, line string, want int) {
	t.Helper()
	if got, code := impl.ReadAct(line); code != want || !alike(got, impl.EngineAct{}) {
		t.Errorf("ReadAct(%q) is %v with code %d, want code %d", shorten(line), got, code, want)
	}
}

func wantReplyText(t *testing.T, kind int, r impl.TxReply, want string) {
	t.Helper()
	if got, code := impl.ReplyText(kind, r); code != impl.OK || got != want {
		t.Errorf("ReplyText(%d, %v) is %q with code %d, want %q", kind, r, shorten(got), code, shorten(want))
	}
}

func wantNoReplyText(t *testing.T, kind int, r impl.TxReply) {
	t.Helper()
	if got, code := impl.ReplyText(kind, r); code != impl.ErrBad || got != "" {
		t.Errorf("ReplyText(%d, %q) is %q with code %d", kind, shorten(told([]any{r})), shorten(got), code)
	}
}

// numbersThatAre are numbers' texts, of all lengths.
var numbersThatAre = map[string]int{
	"0": 0, "1": 1, "3": 3, "4": 4, "9": 9, "10": 10, "16": 16, "17": 17, "-1": -1, "-9": -9, "-10": -10, "100": 100,
	"2147483648": 1 << 31, "4294967296": 1 << 32, "-4294967295": 1 - 1<<32,
	"99999999999999999": 99999999999999999, "100000000000000000": 100000000000000000,
	"999999999999999999": 999999999999999999, "-999999999999999999": -999999999999999999,
}

// numbersThatAreNone are words that look like numbers, and are no number's text.
var numbersThatAreNone = []string{
	"-", "--", "-0", "00", "000", "01", "-00", "-01", "007", "+0", "+1", "--1", "-+1", "1-", "1+", "-1-", "0-",
	"1.0", "1.", ".0", "1e0", "0x0", "0b1", "0o1", "1_0", "0_0", "_1", "1,0", "0\x00", "\x000", "0\t", "\t0", "0\r", "0\n", "\n0", "a", "0a", "a0", "O", "l",
	"\xd9\xa1", "\xef\xbc\x91", "\xc2\xb2", "\xff", "0\xff", "#0", "0#", "NaN", "Inf", "nil", "true", "''",
	"1000000000000000000", "-1000000000000000000", "9223372036854775807", "-9223372036854775808", "9223372036854775808",
	"18446744073709551616", "18446744073709551617", "-18446744073709551616", "0000000000000000000", "0000000000000000001",
	strings.Repeat("9", 19), "-" + strings.Repeat("9", 19), strings.Repeat("1", 100), strings.Repeat("0", 1000),
}

// noLines are lines that are neither an act's, nor show, and have words.
var noLines = []string{
	"begin", "begin 0 1", "begin 0 0", "commit", "commit 0 1", "abort", "abort 0 x",
	"get", "get 0", "get 0 a b", "get a", "get a 0", "drop", "drop 0", "drop 0 a b", "drop a",
	"put", "put 0", "put 0 a", "put 0 a b c", "put a b c", "put a 0 b",
	"scan", "scan a", "scan 0 a b c", "scan a b", "scan a b 0", "sync 0", "sync sync", "clean 0", "clean all",
	"crash", "crash x", "crash 0 0 0", "crash 0 2", "crash 0 01a", "crash 0 -1", "crash 0 1 0", "crash 01", "crash 0 ,",
	"BEGIN 0", "Begin 0", "beGin 0", "GET 0 a", "Put 0 a b", "SYNC", "Clean", "Crash 0", "SHOW", "Show",
	"b 0", "beg 0", "begi 0", "c 0", "co 0", "com 0", "s", "sy", "syn", "cle", "sho", "sc 0", "p 0 a b", "g 0 a", "cras 0",
	"begins 0", "begin0", "begin: 0", "shows", "synced", "sync.", "cleaned", "crashes 0", "gets 0 a",
	"show 0", "show show", "show #", "show all", "0", "0 begin", "-", "=", "a=1", "x", "ok", "error form", "help", "quit", "?",
	"begin #0", "begin # 0", "begin 0 #", "sync #", "begin 0 # not yet", "/# x", "-#",
	"\t", "\r", "\v", "\f", "\x00", "\x85", "\xa0", "\xc2\xa0", "\xe3\x80\x80", "\xff", "\tbegin 0", "begin\t0", "begin 0\t", "begin 0\r", "sync\r", "show\r", "\rshow", "begin\xa00", "\xef\xbb\xbfbegin 0",
}

// silentLines are lines to which nothing is said.
var silentLines = []string{
	"", " ", "   ", strings.Repeat(" ", 999), "#", "##", "# begin 0", "#begin 0", " # sync", "    #", "#\t", "#\x00\xff", "# show", "#1 2 3", "# " + strings.Repeat("#", 999),
}
