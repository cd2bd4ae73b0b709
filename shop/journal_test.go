package shop

import (
	"strings"
	"testing"

	"thicket/api"
)

// indented is a text as a journal has it: each line with a blank ahead.
func indented(text string) string {
	return " " + strings.ReplaceAll(strings.TrimSuffix(text, "\n"), "\n", "\n ") + "\n"
}

const smallLines = "put m 13\n thicket 1\n name m\n outputs 1\n base 0.5\n features 2\n feature a\n feature b\n trees 1\n tree 0 3\n split a <= 0.5 to 1 2 missing left\n leaf 1\n leaf -2.25\n end\n"

func isJournal(t *testing.T, s *Shop, journal, compact string) {
	t.Helper()
	if got := s.Journal(); got != journal {
		t.Errorf("29.6: Journal: %q, not %q", got, journal)
	}
	if got := s.Compact(); got != compact {
		t.Errorf("29.6: Compact: %q, not %q", got, compact)
	}
	same(t, "Replay of Journal", replayed(t, journal), s)
	same(t, "Replay of Compact", replayed(t, compact), s)
}

func TestJournal(t *testing.T) {
	s := New()
	isJournal(t, s, "", "")
	isPut(t, s, "m", small, 1)
	isJournal(t, s, smallLines, smallLines)
	is(t, "Pin", s.Pin("m", 1), api.OK)
	isJournal(t, s, smallLines+"pin m 1\n", smallLines+"pin m 1\n")
	is(t, "Try", s.Try("m", 1, 1000), api.OK)
	isJournal(t, s, smallLines+"pin m 1\ntry m 1 1000\n", smallLines+"pin m 1\ntry m 1 1000\n")
	is(t, "Unpin", s.Unpin("m"), api.OK)
	isJournal(t, s, smallLines+"pin m 1\ntry m 1 1000\nunpin m\n", smallLines+"try m 1 1000\n")
	is(t, "Stop", s.Stop("m"), api.OK)
	is(t, "Withdraw", s.Withdraw("m", 1), api.OK)
	isJournal(t, s, smallLines+"pin m 1\ntry m 1 1000\nunpin m\nstop m\nwithdraw m 1\n", smallLines+"withdraw m 1\n")
}

// Calls that are refused leave no line.
func TestJournalOfRefused(t *testing.T) {
	s := shopOf(t, small)
	is(t, "Pin", s.Pin("m", 1), api.OK)
	for _, why := range []api.Errno{
		s.Pin("m", 1), s.Pin("m", 2), s.Pin("n", 1), s.Withdraw("m", 1), s.Withdraw("m", 0), s.Unpin("n"), s.Try("m", 1, 0), s.Try("m", 2, 1), s.Stop("m"), s.Stop("n"),
	} {
		if why == api.OK {
			t.Error("a call is not refused")
		}
	}
	noPut(t, s, "a b", small, api.ErrName, 0, 0)
	noPut(t, s, "m", "", api.ErrLine, 1, 2)
	s.Score("m", "k", nil)
	s.Score("m", "k", []float64{0, 0})
	s.Scores("m", []string{"k"}, nil, 1)
	isJournal(t, s, smallLines+"pin m 1\n", smallLines+"pin m 1\n")
}

// What is put stands there as Dump writes it.
func TestJournalOfLooseTexts(t *testing.T) {
	s := shopOf(t, loose)
	isJournal(t, s, smallLines, smallLines)
	more := strings.Replace(smallLines, "put m", "put n", 1)
	isPut(t, s, "n", strings.ReplaceAll(small, "\n", "\r"), 1)
	isJournal(t, s, smallLines+more, smallLines+more)
}

func TestCompact(t *testing.T) {
	s := New()
	putAll(t, s, "z", small, wide, with("7"))
	putAll(t, s, "B", wide)
	putAll(t, s, "a", small, small)
	is(t, "Withdraw", s.Withdraw("z", 3), api.OK)
	is(t, "Withdraw", s.Withdraw("z", 1), api.OK)
	is(t, "Try", s.Try("a", 2, 7), api.OK)
	is(t, "Try", s.Try("a", 2, 8), api.OK)
	is(t, "Pin", s.Pin("a", 1), api.OK)
	is(t, "Pin", s.Pin("B", 1), api.OK)
	is(t, "Unpin", s.Unpin("B"), api.OK)
	is(t, "Pin", s.Pin("z", 2), api.OK)
	a, b, z := strings.Replace(smallLines, "put m", "put a", 1), "put B 10\n"+indented(wide), strings.Replace(smallLines, "put m", "put z", 1)
	w, v := "put z 10\n"+indented(wide), "put z 13\n"+indented(with("7"))
	isJournal(t, s,
		z+w+v+b+a+a+"withdraw z 3\nwithdraw z 1\ntry a 2 7\ntry a 2 8\npin a 1\npin B 1\nunpin B\npin z 2\n",
		b+a+a+"pin a 1\ntry a 2 8\n"+z+w+v+"withdraw z 1\nwithdraw z 3\npin z 2\n")
}

func isReplayed(t *testing.T, journal, want string) {
	t.Helper()
	s, why, line := Replay(journal)
	if s == nil || why != api.OK || line != 0 {
		t.Errorf("29.7: Replay(%.300q): %d, line %d", journal, why, line)
		return
	}
	if got := s.Journal(); got != want {
		t.Errorf("29.6: Replay(%.300q) has the journal %q, not %q", journal, got, want)
	}
}

func noReplay(t *testing.T, journal string, want api.Errno, at int) {
	t.Helper()
	if s, why, line := Replay(journal); s != nil || why != want || line != at {
		t.Errorf("29.7: Replay(%.300q): %v, %d, line %d, not %d, line %d", journal, s, why, line, want, at)
	}
}

func TestReplay(t *testing.T) {
	for _, nothing := range []string{"", "\n", " ", "\t\n", "# a remark", "\r\n\r\n#\xff\n \t # put m 1\n", "\r"} {
		isReplayed(t, nothing, "")
	}
	isReplayed(t, smallLines, smallLines)
	isReplayed(t, strings.TrimSuffix(smallLines, "\n"), smallLines)
	isReplayed(t, strings.ReplaceAll(smallLines, "\n", "\r\n"), smallLines)
	isReplayed(t, strings.ReplaceAll(smallLines, "\n", "\r"), smallLines)
	isReplayed(t, "# a journal\n\n  put\tm   13 # of small\n"+indented(small)+"\n \t\n\tpin m 1# now\n#\nunpin m", smallLines+"pin m 1\nunpin m\n")
	// A put's text may be written as any text; all its lines count, also blank ones.
	isReplayed(t, "put m 14\n "+strings.Join(strings.FieldsFunc(loose, func(c rune) bool { return c == '\n' || c == '\r' }), "\n ")+"\n \n", smallLines)
	isReplayed(t, "put m 15\n \n # pin m 1\n"+indented(small), smallLines)
	isReplayed(t, "put m 13\n"+strings.ReplaceAll(indented(small), "\n ", "\n \t "), smallLines)
	// A name is what the call takes.
	for _, name := range []string{"1", "-", ".5", "1e5", "_", "put", "-1", strings.Repeat("9", api.MaxName)} {
		lines := strings.Replace(smallLines, "put m", "put "+name, 1) + "pin " + name + " 1\nunpin " + name + "\ntry " + name + " 1 1\nstop " + name + "\nwithdraw " + name + " 1\n"
		isReplayed(t, lines, lines)
	}
}

func TestReplayWrongLines(t *testing.T) {
	for _, line := range []string{
		"hello", "m", "put", "put m", "put m x", "put m \"1\"", "put m 1 2", "put m =", "pin", "pin m", "pin m x", "pin m 1 2", "pin m 1,", "pin \"m\" 1", "pin = 1", "pin m \"1\"",
		"unpin", "unpin m 1", "unpin \"m\"", "unpin m n", "try", "try m", "try m 1", "try m 1 2 3", "try m 1 x", "try m x 1", "stop", "stop m 1", "stop =",
		"withdraw", "withdraw m", "withdraw m 1 1", "withdraw m one", "Pin m 1", "PIN m 1", "pins m 1", "1 m 1", "\"pin\" m 1", "= m 1", "try, m 1 1",
		"pin m 01", "pin m 00", "pin m +1", "pin m -1", "pin m -0", "pin m 1.0", "pin m 1e0", "pin m 0x1", "pin m 1000000000", "pin m 0000000001", "pin m 1_0", "pin m 99999999999999999999",
		"try m 1 01", "try m 01 1", "try m 1 1000000000", "try m +1 1", "try m 1 -5", "withdraw m 01", "withdraw m 1000000000", "put m 013", "put m +13", "put m 1000000000", "put m -1",
		"pin m 1 \xff", "pin m 1 !", "\x00", "é", "pin m \"", " thicket 1", "pin m+1", "pin m-1", "pin " + strings.Repeat("m", api.MaxLine+1) + " 1", "pin\vm 1",
	} {
		noReplay(t, line, api.ErrLine, 1)
		noReplay(t, line+"\n", api.ErrLine, 1)
		noReplay(t, "\n# x\r\n"+line+"\r\nhello", api.ErrLine, 3)
		noReplay(t, smallLines+line+"\n", api.ErrLine, 15)
		noReplay(t, smallLines+"pin m 1\n"+line+"\npin m 1\n", api.ErrLine, 16)
	}
	// Nine digits are a number.
	noReplay(t, smallLines+"pin m 999999999", api.ErrNoVersion, 15)
	noReplay(t, smallLines+"pin m 0", api.ErrNoVersion, 15)
	noReplay(t, "unpin "+strings.Repeat("m", api.MaxLine), api.ErrNoModel, 1)
}

func TestReplayWrongPuts(t *testing.T) {
	body := indented(small)
	lines := strings.SplitAfter(body, "\n")
	for many := range 13 { // too few lines behind it
		noReplay(t, "put m 13\n"+strings.Join(lines[:many], ""), api.ErrLine, 1)
		noReplay(t, "\n"+smallLines+"put m 13\n"+strings.Join(lines[:many], "")+"\n", api.ErrLine, 16)
		noReplay(t, "put m 13\n"+strings.Join(lines[:many], "")+"pin m 1\n", api.ErrLine, 1)
		// a line without a blank ahead
		noReplay(t, "put m 13\n"+strings.Join(lines[:many], "")+lines[many][1:]+strings.Join(lines[many+1:], ""), api.ErrLine, 1)
		noReplay(t, "put m 13\n"+strings.Join(lines[:many], "")+"\t"+lines[many][1:]+strings.Join(lines[many+1:], ""), api.ErrLine, 1)
		noReplay(t, "put m 14\n"+strings.Join(lines[:many], "")+"\n"+strings.Join(lines[many:], ""), api.ErrLine, 1)
	}
	noReplay(t, "put m 999999999\n"+body, api.ErrLine, 1)
	noReplay(t, "put m 14\n"+body, api.ErrLine, 1)
	noReplay(t, "put m 12\n"+body, api.ErrLine, 1)   // its text ends too early, told at its first line
	noReplay(t, "put m 0", api.ErrLine, 1)           // a text of no lines
	noReplay(t, "#\nput m 0\n"+body, api.ErrLine, 2) //
	noReplay(t, "put 1+m 0", api.ErrName, 1)         // the call says what is no name, ahead of its text
	noReplay(t, "put 1+m 13\n"+body, api.ErrName, 1) //
	noReplay(t, "put 1+m 14\n"+body, api.ErrLine, 1) // but lines that are not there come first
	noReplay(t, "put "+strings.Repeat("m", 65)+" 0", api.ErrName, 1)
	wrong := strings.Replace(body, " leaf 1", " leaf x", 1)
	noReplay(t, "put m 13\n"+wrong, api.ErrLine, 1)
	noReplay(t, smallLines+"\n\nput n 13\n"+wrong+"hello\n", api.ErrLine, 17)
}

func TestReplayRefused(t *testing.T) {
	two := smallLines + smallLines // 28 lines
	for _, c := range []struct {
		lines string
		want  api.Errno
		at    int
	}{
		{"pin m 1", api.ErrNoModel, 1},
		{"withdraw m 1", api.ErrNoModel, 1},
		{"unpin m", api.ErrNoModel, 1},
		{"try m 1 1", api.ErrNoModel, 1},
		{"stop m", api.ErrNoModel, 1},
		{"unpin +", api.ErrNoModel, 1},
		{two + "pin m 0", api.ErrNoVersion, 29},
		{two + "pin m 3", api.ErrNoVersion, 29},
		{two + "\n#\npin m 3", api.ErrNoVersion, 31},
		{two + "withdraw m 1\nwithdraw m 1", api.ErrGone, 30},
		{two + "pin m 1\nwithdraw m 1", api.ErrHeld, 30},
		{two + "try m 1 1\nwithdraw m 1", api.ErrHeld, 30},
		{two + "pin m 1\npin m 1", api.ErrSame, 30},
		{two + "unpin m", api.ErrSame, 29},
		{two + "stop m", api.ErrSame, 29},
		{two + "try m 1 5\ntry m 1 5", api.ErrSame, 30},
		{two + "try m 1 0", api.ErrRange, 29},
		{two + "try m 1 1001", api.ErrRange, 29},
		{two + "try m 3 0", api.ErrNoVersion, 29},
		{two + "pin n 1", api.ErrNoModel, 29},
	} {
		noReplay(t, c.lines, c.want, c.at)
		noReplay(t, c.lines+"\n\npin m 9\nhello\n", c.want, c.at) // the first line at fault
	}
}
