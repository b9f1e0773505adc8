package tests

import (
	"slices"
	"strings"
	"testing"

	"loop.example/g00163/impl"
)

func TestMaxLines(t *testing.T) {
	if impl.MaxLines != 150 {
		t.Errorf("MaxLines is %d", impl.MaxLines)
	}
}

// actLines has each line of the document's table, with its act.
var actLines = map[string]impl.EngineAct{
	"begin 0":          enTx(txBegin(0)),
	"commit 1":         enTx(txCommit(1)),
	"abort 2":          enTx(txAbort(2)),
	"get 3 k":          enTx(txGet(3, "k")),
	"put 0 k v":        enTx(txPut(0, "k", "v")),
	"drop 1 k":         enTx(txDrop(1, "k")),
	"scan 2":           enTx(txScan(2, "", "")),
	"scan 3 from":      enTx(txScan(3, "from", "")),
	"scan 0 from to":   enTx(txScan(0, "from", "to")),
	"sync":             enSync(),
	"clean":            enClean(),
	"crash 7":          enCrash(7),
	"crash 16 0":       enCrash(16, false),
	"crash 0 1":        enCrash(0, true),
	"crash 9 0110":     enCrash(9, false, true, true, false),
	"crash -3 1":       enCrash(-3, true),
	"put 0 0 0":        enTx(txPut(0, "0", "0")),
	"put 1 # #":        enTx(txPut(1, "#", "#")),
	"get 0 #k":         enTx(txGet(0, "#k")),
	"scan 0 # show":    enTx(txScan(0, "#", "show")),
	"put 0 begin get":  enTx(txPut(0, "begin", "get")),
	"put 2 k=v =":      enTx(txPut(2, "k=v", "=")),
	"drop 0 K":         enTx(txDrop(0, "K")),
	"get 0 -1":         enTx(txGet(0, "-1")),
	"get 0 \t":         enTx(txGet(0, "\t")),
	"put 0 a\tb \r":    enTx(txPut(0, "a\tb", "\r")),
	"put 0 \x00 \xff":  enTx(txPut(0, "\x00", "\xff")),
	"get 0 \xc2\xa0":   enTx(txGet(0, "\xc2\xa0")),
	"scan 1 \xff\x00 ": enTx(txScan(1, "\xff\x00", "")),
}

func TestEachLineOfTheTable(t *testing.T) {
	for line, want := range actLines {
		wantAct(t, line, want)
	}
}

func TestBlanksOfALine(t *testing.T) {
	for line, want := range actLines {
		for _, between := range []string{" ", "  ", strings.Repeat(" ", 50)} {
			for _, around := range []string{"", " ", "   "} {
				wantAct(t, around+strings.ReplaceAll(strings.TrimRight(line, " "), " ", between)+around, want)
			}
		}
		// A blank within the first word makes two of it.
		wantNoAct(t, line[:1]+" "+line[1:], impl.ErrForm)
	}
}

// Each byte but the blank stands within a word.
func TestEachByteOfALine(t *testing.T) {
	for c := range 256 {
		one := string([]byte{byte(c)})
		if c == ' ' {
			wantAct(t, "get"+one+"0"+one+one+"a"+one, enTx(txGet(0, "a")))
			wantAct(t, one+"sync"+one, enSync())
			continue
		}
		wantAct(t, "get 0 a"+one+"b", enTx(txGet(0, "a"+one+"b")))
		wantAct(t, "get 0 "+one, enTx(txGet(0, one)))
		wantAct(t, "put 0 "+one+" "+one+one, enTx(txPut(0, one, one+one)))
		wantAct(t, "scan 0 "+one+" "+one, enTx(txScan(0, one, one)))
		for _, line := range []string{one, one + "sync", "sync" + one, "sy" + one + "nc", one + " sync", "sync " + one, "begin" + one + "0", "show" + one} {
			wantNoAct(t, line, impl.ErrForm)
		}
		if c < '0' || c > '9' {
			wantNoAct(t, "begin "+one, impl.ErrForm)
			wantNoAct(t, "begin 1"+one, impl.ErrForm)
		} else {
			wantAct(t, "begin "+one, enTx(txBegin(c-'0')))
			wantAct(t, "crash 1"+one, enCrash(10+c-'0'))
		}
		if c == '0' || c == '1' {
			wantAct(t, "crash 3 "+one+"1", enCrash(3, c == '1', true))
		} else {
			wantNoAct(t, "crash 3 "+one, impl.ErrForm)
			wantNoAct(t, "crash 3 01"+one, impl.ErrForm)
			wantNoAct(t, "crash 3 "+one+"01", impl.ErrForm)
			wantNoAct(t, "crash 3 0"+one+"1", impl.ErrForm)
		}
	}
}

func TestLinesThatAreNoActs(t *testing.T) {
	for _, line := range slices.Concat(noLines, silentLines, []string{"show", " show ", "  show"}) {
		wantNoAct(t, line, impl.ErrForm)
		wantNoAct(t, "  "+line+" ", impl.ErrForm)
	}
}

// A byte 10 is no blank, and ends no line that is handed in by itself.
func TestLinesWithAByte10(t *testing.T) {
	for _, line := range []string{"\n", "sync\n", "\nsync", "begin 0\n", "begin\n0", "begin 0\nbegin 1", "sync\nsync", "sync \n", "\n sync", "crash 0\n", "crash 0 01\n", "scan 0\n", "show\n", "#\n"} {
		wantNoAct(t, line, impl.ErrForm)
	}
	wantAct(t, "get 0 a\n", enTx(txGet(0, "a\n")))
	wantAct(t, "put 0 \n a\nb", enTx(txPut(0, "\n", "a\nb")))
	wantAct(t, "scan 0 a\nbegin 0", impl.EngineAct{Kind: impl.EnTx, Tx: txScan(0, "a\nbegin", "0")})
	wantAct(t, "scan 0 \n", enTx(txScan(0, "\n", "")))
}

func TestNumbersOfALine(t *testing.T) {
	for word, n := range numbersThatAre {
		wantAct(t, "begin "+word, enTx(txBegin(n)))
		wantAct(t, "commit "+word, enTx(txCommit(n)))
		wantAct(t, "abort "+word, enTx(txAbort(n)))
		wantAct(t, "get "+word+" k", enTx(txGet(n, "k")))
		wantAct(t, "put "+word+" k v", enTx(txPut(n, "k", "v")))
		wantAct(t, "drop "+word+" k", enTx(txDrop(n, "k")))
		wantAct(t, "scan "+word, enTx(txScan(n, "", "")))
		wantAct(t, "scan "+word+" a", enTx(txScan(n, "a", "")))
		wantAct(t, "scan "+word+" a b", enTx(txScan(n, "a", "b")))
		wantAct(t, "crash "+word, enCrash(n))
		wantAct(t, "crash "+word+" 10", enCrash(n, true, false))
	}
	for _, word := range numbersThatAreNone {
		for _, line := range []string{"begin N", "commit N", "abort N", "get N k", "put N k v", "drop N k", "scan N", "scan N a", "scan N a b", "crash N", "crash N 1"} {
			wantNoAct(t, strings.Replace(line, "N", word, 1), impl.ErrForm)
		}
	}
}

// Words too few and too many for each line's act.
func TestWordsTooFewAndTooMany(t *testing.T) {
	for _, c := range []struct {
		words    []string
		from, to int
	}{
		{[]string{"begin", "0", "1", "1"}, 2, 2},
		{[]string{"commit", "0", "1", "1"}, 2, 2},
		{[]string{"abort", "0", "1", "1"}, 2, 2},
		{[]string{"get", "0", "1", "1", "1"}, 3, 3},
		{[]string{"put", "0", "1", "1", "1", "1"}, 4, 4},
		{[]string{"drop", "0", "1", "1", "1"}, 3, 3},
		{[]string{"scan", "0", "1", "1", "1", "1"}, 2, 4},
		{[]string{"sync", "0", "1"}, 1, 1},
		{[]string{"clean", "0", "1"}, 1, 1},
		{[]string{"crash", "0", "1", "1", "1"}, 2, 3},
	} {
		for n := range len(c.words) + 1 {
			line := strings.Join(c.words[:n], " ")
			want := impl.ErrForm
			if n >= c.from && n <= c.to {
				want = impl.OK
			}
			if a, code := impl.ReadAct(line); code != want || want != impl.OK && !alike(a, impl.EngineAct{}) {
				t.Errorf("ReadAct(%q) is %v with code %d, want code %d", line, a, code, want)
			}
		}
	}
}

func TestLongLines(t *testing.T) {
	const most = impl.MaxText
	key := strings.Repeat("k", most)
	wantAct(t, "get 0 "+key[6:], enTx(txGet(0, key[6:])))
	wantAct(t, "put 0 k "+key[8:], enTx(txPut(0, "k", key[8:])))
	wantAct(t, "scan 0 k "+key[9:], enTx(txScan(0, "k", key[9:])))
	wantAct(t, "sync"+strings.Repeat(" ", most-4), enSync())
	wantAct(t, strings.Repeat(" ", most-4)+"sync", enSync())
	wantAct(t, "crash 0 "+strings.Repeat("1", most-8), enCrash(0, flags(most-8, true)...))
	wantNoAct(t, key, impl.ErrForm)
	wantNoAct(t, strings.Repeat(" ", most), impl.ErrForm)
	wantNoAct(t, strings.Repeat("a ", most/2), impl.ErrForm)
	wantNoAct(t, "begin "+strings.Repeat("1", most-6), impl.ErrForm)
	wantNoAct(t, "get 0 "+key[5:], impl.ErrLong)
	wantNoAct(t, "sync"+strings.Repeat(" ", most-3), impl.ErrLong)
	wantNoAct(t, strings.Repeat(" ", most+1), impl.ErrLong)
	wantNoAct(t, strings.Repeat("#", most+1), impl.ErrLong)
	wantNoAct(t, "begin x"+key, impl.ErrLong)
	wantNoAct(t, strings.Repeat("\xff ", most), impl.ErrLong)
	// As many flags as there may be bytes: no list of them is handed in.
	for _, n := range []int{1, impl.MaxList - 1, impl.MaxList, impl.MaxList + 1, 2 * impl.MaxList} {
		wantAct(t, "crash 16 "+strings.Repeat("1", n), enCrash(16, flags(n, true)...))
		wantAct(t, "crash 16 "+strings.Repeat("0", n), enCrash(16, flags(n, false)...))
		wantNoAct(t, "crash 16 "+strings.Repeat("0", n)+"2", impl.ErrForm)
	}
}

// bentLine is a line of words that mostly belong together, cut, doubled and turned.
func bentLine(next func() uint64) string {
	words := []string{"begin", "commit", "abort", "get", "put", "drop", "scan", "sync", "clean", "crash", "show", "#", "0", "1", "-1", "-0", "00", "16", "17", "a", "k1", "\t", "\n", "01", "2", ""}
	line := words[next()%11]
	if next()%8 == 0 {
		line = words[next()%uint64(len(words))]
	}
	for n := range next() % 5 {
		if n == 0 && next()%4 > 0 {
			line += " " + []string{"0", "1", "2", "3", "-5", "12"}[next()%6]
			continue
		}
		line += strings.Repeat(" ", int(1+next()%2)) + words[next()%uint64(len(words))]
	}
	if next()%6 == 0 {
		at := next() % uint64(len(line)+1)
		line = line[:at] + string([]byte{byte(next())}) + line[at:]
	}
	if next()%6 == 0 && line != "" {
		at := next() % uint64(len(line))
		line = line[:at] + line[at+1:]
	}
	return line
}

func TestLinesAsTheDocumentSays(t *testing.T) {
	next := numbers(107)
	seen := map[int]int{}
	for range 20000 {
		line := bentLine(next)
		want, wantCode := plainReadAct(line)
		got, code := impl.ReadAct(line)
		if code != wantCode || !alike(got, want) {
			t.Fatalf("ReadAct(%q) is %v with code %d, want %v with code %d", line, got, code, want, wantCode)
		}
		seen[code]++
	}
	if seen[impl.OK] < 2000 || seen[impl.ErrForm] < 3000 {
		t.Errorf("codes were seen %v times", seen)
	}
}
