package tests

import (
	"math"
	"slices"
	"strings"

	"loop.example/g00163/impl"
)

// givenLines are lines of any bytes, and of all lengths.
func givenLines() []string {
	next := numbers(149)
	list := slices.Concat(noLines, silentLines, []string{"show", "crash 3 0101", "crash 16 " + strings.Repeat("10", impl.MaxList), "scan 1 a b\n"})
	for line := range actLines {
		list = append(list, line)
	}
	slices.Sort(list)
	for _, word := range numbersThatAreNone {
		list = append(list, "begin "+word, "crash "+word)
	}
	for _, size := range []int{impl.MaxText - 8, impl.MaxText - 7} {
		list = append(list, "crash 0 "+strings.Repeat("1", size), "put 0 k "+strings.Repeat("v", size), strings.Repeat(" ", size+8))
	}
	for range 200 {
		list = append(list, bentLine(next), someBytes(next, int(next()%40)))
	}
	return list
}

// someBytes are any bytes, with more blanks and bytes 10 than others.
func someBytes(next func() uint64, n int) string {
	b := make([]byte, n)
	for i := range b {
		b[i] = byte(next() >> 8)
		if c := next() % 8; c < 3 {
			b[i] = " \n#"[c]
		}
	}
	return string(b)
}

// givenConsoleTexts are texts of several sessions, and of anything.
func givenConsoleTexts() []string {
	next := numbers(151)
	list := []string{
		"", "\n", " ", "\n\n", "begin 0", "begin 0\n", "show", "#", "\x00", "\xff\n\xff",
		"begin 0\nput 0 a 1\nscan 0\nscan 0\ncommit 0\nshow\nshow", "begin 0\r\nshow\r\n",
		textOf(noLines...), textOf(silentLines...), strings.Repeat("\n", impl.MaxLines+1), strings.Repeat(" ", impl.MaxText), strings.Repeat("\n", impl.MaxText), strings.Repeat("x", impl.MaxText+1),
	}
	for range 12 {
		list = append(list, textOf(someLines(next, impl.MaxLines)...), strings.Join(someLines(next, 40), "\n"))
	}
	for range 40 {
		list = append(list, someBytes(next, int(next()%300)), strings.Repeat(someBytes(next, 9), 30))
	}
	return list
}

func givenReplies() []impl.TxReply {
	list := []impl.TxReply{
		{}, {List: []impl.Entry{}}, {Value: "v"}, {Value: longValue}, {Value: tooLong}, {Value: strings.Repeat("v", impl.MaxText+1)},
		{List: make([]impl.Entry, 1)}, {List: entriesOf("a=1", "b=2", "c=")}, {List: entriesOf("c=1", "a=3", "b=2", "a=")}, {List: manyEntries(60)}, {List: make([]impl.Entry, impl.MaxList+1)},
		{List: []impl.Entry{{Key: longKey, Value: longValue}}}, {List: append(manyEntries(9), impl.Entry{Key: tooLongKey})}, {List: append(manyEntries(9), impl.Entry{Value: tooLong})},
	}
	for _, n := range []int{math.MinInt, -1, 0, 1, 12, 13, math.MaxInt} {
		list = append(list, impl.TxReply{Time: n}, impl.TxReply{Code: n}, impl.TxReply{Code: n, Time: n, Value: "v", List: entriesOf("a=1")})
	}
	return list
}

func consoleCalls() []call {
	var replies [][]any
	for _, kind := range []int{math.MinInt, -1, 0, 1, 2, 3, 4, 5, 6, 7, 8, math.MaxInt} {
		for _, r := range givenReplies() {
			replies = append(replies, []any{kind, r})
		}
	}
	return slices.Concat(
		coded("ReadAct", impl.ReadAct, each(givenLines())),
		coded("ReplyText", impl.ReplyText, replies),
		coded("Console", impl.Console, each(givenConsoleTexts())),
	)
}
