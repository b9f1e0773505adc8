package tests

import (
	"fmt"
	"regexp"
	"strconv"
	"strings"

	"loop.example/g00163/impl"
)

// What follows says of the console what the document says: the table of its
// lines is written down as patterns, the acts are those of the plain engine.

const (
	numberForm = `(0|-?[1-9][0-9]{0,17})`
	wordForm   = `([^ ]+)`
)

var lineForms = []*regexp.Regexp{
	regexp.MustCompile(`^ *(begin|commit|abort) +` + numberForm + ` *$`),
	regexp.MustCompile(`^ *(get|drop) +` + numberForm + ` +` + wordForm + ` *$`),
	regexp.MustCompile(`^ *(put) +` + numberForm + ` +` + wordForm + ` +` + wordForm + ` *$`),
	regexp.MustCompile(`^ *(scan) +` + numberForm + `(?: +` + wordForm + `)?(?: +` + wordForm + `)? *$`),
	regexp.MustCompile(`^ *(sync|clean) *$`),
	regexp.MustCompile(`^ *(crash) +` + numberForm + `(?: +([01]+))? *$`),
}

var txWords = map[string]int{
	"begin": impl.TxBegin, "get": impl.TxGet, "scan": impl.TxScan, "put": impl.TxPut,
	"drop": impl.TxDrop, "commit": impl.TxCommit, "abort": impl.TxAbort,
}

func plainReadAct(line string) (impl.EngineAct, int) {
	if len(line) > impl.MaxText {
		return impl.EngineAct{}, impl.ErrLong
	}
	for _, form := range lineForms {
		if found := form.FindStringSubmatch(line); found != nil {
			// Four places behind the whole: those that a line does not have are empty.
			return plainActOf(append(found[1:], "", "", "")), impl.OK
		}
	}
	return impl.EngineAct{}, impl.ErrForm
}

func plainActOf(found []string) impl.EngineAct {
	number, _ := strconv.Atoi(found[1])
	switch found[0] {
	case "sync":
		return impl.EngineAct{Kind: impl.EnSync}
	case "clean":
		return impl.EngineAct{Kind: impl.EnClean}
	case "crash":
		a := impl.EngineAct{Kind: impl.EnCrash, Torn: number}
		for _, sign := range found[2] {
			a.Keep = append(a.Keep, sign == '1')
		}
		return a
	case "scan":
		return enTx(impl.TxAct{Kind: impl.TxScan, Session: number, Key: found[2], To: found[3]})
	}
	return enTx(impl.TxAct{Kind: txWords[found[0]], Session: number, Key: found[2], Value: found[3]})
}

var plainWords = []string{"ok", "bad", "long", "form", "range", "none", "many", "full", "state", "conflict", "closed", "size", "gone"}

func plainReplyText(kind int, r impl.TxReply) (string, int) {
	right := kind >= 0 && kind <= 7 && r.Code >= 0 && r.Code < len(plainWords) && len(r.Value) <= 100
	for _, e := range r.List {
		right = right && len(e.Key) <= 40 && len(e.Value) <= 100
	}
	switch {
	case !right:
		return "", impl.ErrBad
	case r.Code != 0:
		return fmt.Sprintf("error %s\n", plainWords[r.Code]), impl.OK
	case kind == impl.TxGet:
		return fmt.Sprintf("value %s\n", r.Value), impl.OK
	case kind == impl.TxScan:
		return fmt.Sprintf("%sentries %d\n", plainEntryLines(r.List), len(r.List)), impl.OK
	case kind == impl.TxBegin || kind == impl.TxCommit:
		return fmt.Sprintf("ok %d\n", r.Time), impl.OK
	}
	return "ok\n", impl.OK
}

func plainEntryLines(list []impl.Entry) string {
	text := ""
	for _, e := range list {
		text += fmt.Sprintf("%s=%s\n", e.Key, e.Value)
	}
	return text
}

// say does a line on a plain engine.
func (e *plainEngine) say(line string) string {
	trimmed := strings.Trim(line, " ")
	if trimmed == "" || trimmed[0] == '#' {
		return ""
	}
	if trimmed == "show" {
		entries := plainEntryLines(plainVersionEntries(e.v.List, e.v.Next))
		return fmt.Sprintf("%snext %d held %d waiting %d\n", entries, e.v.Next, len(e.flash.Held), len(e.flash.Waiting))
	}
	a, code := plainReadAct(line)
	if code != impl.OK {
		return "error form\n"
	}
	said, _ := plainReplyText(a.Tx.Kind, e.do(a))
	return said
}

// plainLines are the lines of a text, each without its byte 10.
func plainLines(t string) []string {
	var lines []string
	for t != "" {
		line, rest, _ := strings.Cut(t, "\n")
		lines = append(lines, line)
		t = rest
	}
	return lines
}

func plainConsole(t string) (string, int) {
	lines := plainLines(t)
	switch {
	case len(t) > impl.MaxText:
		return "", impl.ErrLong
	case len(lines) > 150:
		return "", impl.ErrMany
	}
	e := plainNothing()
	said := ""
	for _, line := range lines {
		said += e.say(line)
	}
	return said, impl.OK
}
