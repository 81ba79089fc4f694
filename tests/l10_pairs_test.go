package tests

import (
	"slices"
	"strings"
	"testing"

	"loop.example/g00727/impl"
)

// checkLine expects that line, or none for noPair.
func checkLine(t *testing.T, format int, d impl.Dialect, key string, value string, want string) {
	t.Helper()
	if got, ok := impl.PairLine(format, d, key, value); got != want || ok != (want != noPair) {
		t.Errorf("PairLine(%d, %+v, %q, %q) = %q, %v, want %q", format, d, key, value, got, ok, want)
	}
	if want != noPair {
		checkFileText(t, impl.Parse(format, d, want+"\n"), key, value)
	}
}

// checkFileText expects that the file has that setting alone.
func checkFileText(t *testing.T, f impl.File, key string, value string) {
	t.Helper()
	checkText(t, f, "", key, plainOf(value))
	checkKeys(t, f, "\x00"+key)
	if len(f.Recs) != 1 {
		t.Errorf("the file %+v has %d records", f, len(f.Recs))
	}
}

func checkText(t *testing.T, f impl.File, section string, key string, want string) {
	t.Helper()
	if got, ok := impl.TextIn(f, section, key); got != want || !ok {
		t.Errorf("TextIn(%+v, %q, %q) = %q, %v, want %q", f, section, key, got, ok, want)
	}
}

func checkNoText(t *testing.T, f impl.File, section string, key string) {
	t.Helper()
	if got, ok := impl.TextIn(f, section, key); got != "" || ok {
		t.Errorf("TextIn(%+v, %q, %q) = %q, %v", f, section, key, got, ok)
	}
}

func checkKeys(t *testing.T, f impl.File, want ...string) {
	t.Helper()
	if got := impl.Keys(f); !slices.Equal(got, want) {
		t.Errorf("Keys(%+v) = %q, want %q", f, got, want)
	}
}

func TestPairLineOfIni(t *testing.T) {
	d := dialect("iqe", impl.JoMark)
	checkLine(t, impl.FmIni, d, "a", "1", "a = 1")
	checkLine(t, impl.FmIni, d, "a", "", "a =")
	checkLine(t, impl.FmIni, d, "two words", "a # b\n", `two words = a \# b\n`)
	checkLine(t, impl.FmIni, d, "a", " b", `a = " b"`)
	checkLine(t, impl.FmIni, d, "a", "$x", "a = $x")
	checkLine(t, impl.FmIni, d, "a", "\x00\xff", "a = \x00\xff")
	checkLine(t, impl.FmIni, d, "\xff", "\u00e9", "\xff = \u00e9")
	checkLine(t, impl.FmIni, dialect("", impl.JoIndent), "a", "b\nc", "a = b\n c")
	checkLine(t, impl.FmIni, impl.Dialect{Notes: "#", Seps: ":="}, "a", "1", "a : 1")
	for _, key := range []string{"", " ", " a", "a ", "a=b", "a:", "#", "#a", ";a", "[", "[a]", "a\n", "\ra"} {
		checkLine(t, impl.FmIni, d, key, "1", noPair)
	}
	checkLine(t, impl.FmIni, dialect("", impl.JoNone), "a", "b\nc", noPair)
	checkLine(t, impl.FmIni, dialect("i", impl.JoNone), "a", " b", noPair)
	checkLine(t, impl.FmIni, d, "a", strings.Repeat("v", impl.MaxText), noPair)
}

func TestPairLineOfProps(t *testing.T) {
	for _, d := range anyDialects() {
		checkLine(t, impl.FmProps, d, "a", "1", "a=1")
		checkLine(t, impl.FmProps, d, "", "", "=")
		checkLine(t, impl.FmProps, d, "", "1", "=1")
		checkLine(t, impl.FmProps, d, "a", "", "a=")
		checkLine(t, impl.FmProps, d, "a b", " c d", `a\ b=\ c d`)
		checkLine(t, impl.FmProps, d, "#", "!", `\#=\!`)
		checkLine(t, impl.FmProps, d, "a=b:", "c\\\n", `a\=b\:=c\\\n`)
		checkLine(t, impl.FmProps, d, "[s]", "$x", "[s]=$x")
		checkLine(t, impl.FmProps, d, "\x00\xff", "\u00e9\U0001f600", "\\u0000\xff=\\u00e9\\ud83d\\ude00")
	}
}

// TestPairLineOfLongProps: PropPair limits no length, but what is too long is read as no pair.
func TestPairLineOfLongProps(t *testing.T) {
	for sign, size := range map[string]int{"v": 1, "\xff": 1, "=": 2, "\n": 2, "\u00e9": 6, "\U0001f600": 12} {
		room := impl.MaxText - len("=\n")
		most := strings.Repeat(sign, room/size)
		checkLine(t, impl.FmProps, impl.Dialect{}, "", most, impl.PropPair("", most))
		checkLine(t, impl.FmProps, impl.Dialect{}, most, "", impl.PropPair(most, ""))
		for _, more := range []string{most + sign, most + most, most + strings.Repeat("v", room%size+1)} {
			checkLine(t, impl.FmProps, impl.Dialect{}, "", more, noPair)
			checkLine(t, impl.FmProps, impl.Dialect{}, more, "", noPair)
			checkLine(t, impl.FmProps, impl.Dialect{}, more, more, noPair)
		}
		half := strings.Repeat(sign, (room/size+1)/2)
		checkLine(t, impl.FmProps, impl.Dialect{}, half, strings.Repeat("v", room-len(impl.PropKey(half))), impl.PropKey(half)+"="+strings.Repeat("v", room-len(impl.PropKey(half))))
		checkLine(t, impl.FmProps, impl.Dialect{}, half, strings.Repeat("v", room-len(impl.PropKey(half))+1), noPair)
	}
}

func TestPairLineOfEnv(t *testing.T) {
	for _, d := range anyDialects() {
		checkLine(t, impl.FmEnv, d, "A", "1", "A=1")
		checkLine(t, impl.FmEnv, d, "A", "", "A=")
		checkLine(t, impl.FmEnv, d, "A", "5 $", "A='5 $'")
		checkLine(t, impl.FmEnv, d, "_a", "$x\n", "_a='$x\n'")
		checkLine(t, impl.FmEnv, d, "A", "it's \"$\"\n", `A="it's \"\$\"\n"`)
		checkLine(t, impl.FmEnv, d, "A", "\x00\xff", "A=\x00\xff")
		for _, key := range []string{"", " ", "1", "a b", "a-b", "a=b", " a", "a ", "export a", "#", "\u00e9", "\x00", "a\n", strings.Repeat("k", 41)} {
			checkLine(t, impl.FmEnv, d, key, "1", noPair)
		}
		checkLine(t, impl.FmEnv, d, "A", strings.Repeat("v", impl.MaxText), noPair)
	}
}

func TestNoPairLine(t *testing.T) {
	for _, key := range []string{"", "a", "A", "a b", "\xff", "="} {
		for _, value := range []string{"", "1", "$x", " \n", "\x00"} {
			for _, d := range invalidDialects() {
				checkLine(t, impl.FmIni, d, key, value, noPair)
			}
			for _, d := range anyDialects() {
				for _, format := range noFormats {
					checkLine(t, format, d, key, value, noPair)
				}
			}
		}
	}
}

func TestTextIn(t *testing.T) {
	f := impl.Parse(impl.FmIni, dialect("iqe", impl.JoMark), "a=1\na=2\nb=3\n[s]\na=4\n[t]\na=5\nc=\"\"\n[s]\nc=6\na=$7\n# a=8\n?\n[u]\nd=$$\n[t]\n")
	checkText(t, f, "", "a", "2")
	checkText(t, f, "", "b", "3")
	checkText(t, f, "s", "a", "$$7")
	checkText(t, f, "s", "c", "6")
	checkText(t, f, "t", "a", "5")
	checkText(t, f, "t", "c", "")
	checkText(t, f, "u", "d", "$$$$")
	for _, none := range [][2]string{{"", "c"}, {"", "d"}, {"s", "b"}, {"s", "d"}, {"u", "a"}, {"v", "a"}, {"S", "a"}, {"s", "A"}, {"s ", "a"}, {"s", "a\x00"}, {"", ""}, {"s", ""}, {"a", "s"}, {"s\x00a", ""}, {"", "s\x00a"}, {"\xff", "\xff"}} {
		checkNoText(t, f, none[0], none[1])
	}
	p := impl.Parse(impl.FmProps, impl.Dialect{}, "a=1\na b\n=c\na:$x\\u0024\n\\ =\\\n$\n")
	checkText(t, p, "", "a", "$$x$$")
	checkText(t, p, "", "", "c")
	checkText(t, p, "", " ", "$$")
	checkNoText(t, p, "", "b")
	checkNoText(t, p, "a", "a")
	e := impl.Parse(impl.FmEnv, impl.Dialect{}, "A=1\nexport A=$x\nB='$x'\nC=\"\\$ $\"\nD=${x:-y}\nE=\nB=b'\nf f=1\n")
	checkText(t, e, "", "A", "$x")
	checkText(t, e, "", "B", "$$x")
	checkText(t, e, "", "C", "$$ $")
	checkText(t, e, "", "D", "${x:-y}")
	checkText(t, e, "", "E", "")
	checkNoText(t, e, "", "F")
	checkNoText(t, e, "", "f f")
	checkNoText(t, e, "A", "A")
}

// TestTextInOfDollars: the values of environment files are templates already, those of all other files are not.
func TestTextInOfDollars(t *testing.T) {
	for value, plain := range map[string]string{"": "", "a": "a", "$": "$$", "$$": "$$$$", "$x": "$$x", "a$b$": "a$$b$$", "${x:-y}": "$${x:-y}", "\xff$\x00": "\xff$$\x00", "\\$": "\\$$", strings.Repeat("$", impl.MaxText): strings.Repeat("$", 2*impl.MaxText)} {
		list := []impl.Rec{{Kind: impl.RkPair, Section: "s", Key: "k", Value: value}}
		checkText(t, impl.File{Format: impl.FmEnv, Recs: list}, "s", "k", value)
		for _, format := range append(noFormats, impl.FmIni, impl.FmProps) {
			checkText(t, impl.File{Format: format, Recs: list}, "s", "k", plain)
		}
	}
}

// TestTextInOfAnyRecords: the file need not be valid, and only pairs count.
func TestTextInOfAnyRecords(t *testing.T) {
	for _, format := range append(noFormats, formats...) {
		for _, d := range anyDialects() {
			f := impl.File{Format: format, Dialect: d, Recs: []impl.Rec{
				{Kind: impl.RkPair, Raw: "x", Section: "s", Key: "k", Value: "1", Line: 9}, {Kind: impl.RkPair, Section: "s", Key: "k", Value: "2"}, {Kind: impl.RkPair, Section: "t", Key: "k", Value: "3", Line: -1}, {Kind: impl.RkPair, Value: "4"},
				{Kind: impl.RkBlank, Section: "s", Key: "k", Value: "5"}, {Kind: impl.RkNote, Section: "s", Key: "k", Value: "6"}, {Kind: impl.RkHead, Section: "s", Key: "k", Value: "7"}, {Kind: impl.RkOdd, Section: "s", Key: "k", Value: "8"}, {Kind: 5, Section: "s", Key: "k", Value: "9"},
				{Kind: impl.RkNote, Section: "u", Key: "k", Value: "6"}, {Kind: impl.RkHead, Section: "v", Key: "k", Value: "7"}, {Kind: -1, Section: "w", Key: "k", Value: "0"}, {}, {Kind: impl.RkHead},
			}}
			checkText(t, f, "s", "k", "2")
			checkText(t, f, "t", "k", "3")
			checkText(t, f, "", "", "4")
			for _, section := range []string{"", "u", "v", "w", "k", "x"} {
				checkNoText(t, f, section, "k")
			}
			for n := range 3 {
				if n > 0 {
					checkText(t, withRecs(f, f.Recs[:n]), "s", "k", []string{"", "1", "2"}[n])
				} else {
					checkNoText(t, withRecs(f, f.Recs[:n]), "s", "k")
				}
			}
		}
	}
}

// TestTextOfTheLastPair: another pair of the key at the end determines the value.
func TestTextOfTheLastPair(t *testing.T) {
	for _, f := range goodFiles() {
		s := impl.Print(f) + "\n"
		for _, key := range []string{"a", "A", "B", "new"} {
			for _, value := range []string{"", "1", "a b", "$x", "\xff", "x=y"} {
				line, ok := impl.PairLine(f.Format, f.Dialect, key, value)
				longer := impl.Parse(f.Format, f.Dialect, s+line+"\n")
				last := longer.Recs[len(longer.Recs)-1]
				if !ok || last.Kind != impl.RkPair {
					t.Errorf("the line %q of %q, %q ends %q as %+v", line, key, value, s, last)
				}
				checkText(t, longer, last.Section, key, plainOf(value))
			}
		}
	}
}

func TestKeys(t *testing.T) {
	f := impl.Parse(impl.FmIni, dialect("", impl.JoNone), "b=1\na=2\nb=3\n[t]\na=4\n[s]\n# c=5\nc=6\n?\na b=7\n[t]\na=8\nB=9\n[u]\n")
	checkKeys(t, f, "\x00a", "\x00b", "s\x00a b", "s\x00c", "t\x00B", "t\x00a")
	checkKeys(t, impl.Parse(impl.FmProps, impl.Dialect{}, "b=1\na\n=2\na=3\n#c=4\n\\u=5\nB=6\n\\u0000=7\n"), "\x00", "\x00\x00", "\x00B", "\x00a", "\x00b")
	checkKeys(t, impl.Parse(impl.FmEnv, impl.Dialect{}, "B=1\nA=2\nexport B=3\n#C=4\nD='\n_=5\na=6\nA1=7\n"), "\x00A", "\x00A1", "\x00B", "\x00_", "\x00a")
	checkKeys(t, impl.File{})
	for _, f := range goodFiles() {
		checkKeys(t, withRecs(f, nil))
		checkKeys(t, withRecs(f, []impl.Rec{}))
	}
}

func TestKeysOfAnyRecords(t *testing.T) {
	for _, format := range append(noFormats, formats...) {
		for _, d := range anyDialects() {
			f := impl.File{Format: format, Dialect: d}
			for _, kind := range append(noKinds, impl.RkBlank, impl.RkNote, impl.RkHead, impl.RkOdd) {
				other := impl.Rec{Kind: kind, Raw: "k=v\n", Section: "s", Key: "k", Value: "v", Line: 1}
				checkKeys(t, withRecs(f, []impl.Rec{other}))
				checkKeys(t, withRecs(f, []impl.Rec{other, pairRec("t", "l"), other, pairRec("", ""), other}), "\x00", "t\x00l")
			}
			checkKeys(t, withRecs(f, []impl.Rec{{Kind: impl.RkPair}, {Kind: impl.RkPair, Raw: "x", Value: "y", Line: 2}}), "\x00")
			checkKeys(t, withRecs(f, []impl.Rec{pairRec("b", "a"), pairRec("a", "b"), pairRec("", "c"), pairRec("c", ""), pairRec("a", "b"), pairRec("b", "a")}), "\x00c", "a\x00b", "b\x00a", "c\x00")
		}
	}
}

// TestKeysWithMarks: what counts is the string of Section, byte 0 and Key, not the two alone.
func TestKeysWithMarks(t *testing.T) {
	keysOf := func(list ...impl.Rec) impl.File { return impl.File{Recs: list} }
	checkKeys(t, keysOf(pairRec("a\x00b", "c"), pairRec("a", "b\x00c")), "a\x00b\x00c")
	checkKeys(t, keysOf(pairRec("", "\x00"), pairRec("\x00", "")), "\x00\x00")
	checkKeys(t, keysOf(pairRec("a", "\x01"), pairRec("a\x00", "")), "a\x00\x00", "a\x00\x01")
	checkKeys(t, keysOf(pairRec("ab", ""), pairRec("a", "z"), pairRec("a", ""), pairRec("abc", "")), "a\x00", "a\x00z", "ab\x00", "abc\x00")
	checkKeys(t, keysOf(pairRec("s", "abc"), pairRec("s", "ab"), pairRec("s", ""), pairRec("s", "ab\x00"), pairRec("s", "a")), "s\x00", "s\x00a", "s\x00ab", "s\x00ab\x00", "s\x00abc")
	checkKeys(t, keysOf(pairRec("\xff", "a"), pairRec("\u00e9", "a"), pairRec("z", "a"), pairRec("\x80", "a"), pairRec("\x01", "a"), pairRec("", "\xff")), "\x00\xff", "\x01\x00a", "z\x00a", "\x80\x00a", "\u00e9\x00a", "\xff\x00a")
	checkKeys(t, keysOf(pairRec("a", "b"), pairRec("a", "c"), pairRec("a", "b"), pairRec("a", "a"), pairRec("a", "c"), pairRec("a", "c")), "a\x00a", "a\x00b", "a\x00c")
}

// TestFilesAreNotChanged: neither the records nor the spare capacity behind them.
func TestFilesAreNotChanged(t *testing.T) {
	for _, f := range append(goodFiles(), impl.File{Format: 7, Recs: rawRecs("b", "a", "", "\xff", "a=1\n")}, impl.File{Recs: []impl.Rec{pairRec("t", "b"), pairRec("s", "a"), pairRec("t", "b")}}) {
		whole := append(slices.Clone(f.Recs), pairRec("z", "z"), pairRec("a", "a"), headRec("spare"))
		before := slices.Clone(whole)
		for n := range len(whole) + 1 {
			part := withRecs(f, whole[:n])
			for range 2 {
				impl.FileOk(part)
				impl.Print(part)
				impl.Keys(part)
				impl.TextIn(part, "s", "a")
				impl.TextIn(part, "", "A")
			}
			if !slices.Equal(whole, before) {
				t.Fatalf("%+v became %+v", before, whole)
			}
		}
	}
}

func TestFilesShareNothing(t *testing.T) {
	for _, f := range goodFiles() {
		d, s := f.Dialect, impl.Print(f)
		kept, other := impl.Parse(f.Format, d, s), impl.Parse(f.Format, d, s)
		keptKeys, otherKeys := impl.Keys(kept), impl.Keys(kept)
		before, beforeKeys := slices.Clone(kept.Recs), slices.Clone(keptKeys)
		fill(other.Recs[:cap(other.Recs)], impl.Rec{Kind: impl.RkPair, Raw: "changed"})
		fill(otherKeys[:cap(otherKeys)], "changed")
		if !slices.Equal(kept.Recs, before) || !slices.Equal(keptKeys, beforeKeys) || !slices.Equal(impl.Keys(kept), beforeKeys) || !sameFile(impl.Parse(f.Format, d, s), f) {
			t.Errorf("changing one result changes another: %+v, %q", kept, keptKeys)
		}
	}
}

// TestFileCallsKeepNothing: what was asked before does not bear on the next call.
func TestFileCallsKeepNothing(t *testing.T) {
	for _, f := range goodFiles() {
		for _, key := range []string{"a", "A", "", "a b"} {
			arg := strings.Clone(key)
			var texts []string
			for range 2 {
				line, _ := impl.PairLine(f.Format, f.Dialect, arg, arg)
				text, _ := impl.TextIn(f, "s", arg)
				texts = append(texts, line, text, impl.Print(f), strings.Join(impl.Keys(f), "\n"))
				impl.Parse(impl.FmEnv, f.Dialect, "A='\n")
				impl.PairLine(impl.FmProps, f.Dialect, "=", "\xff")
				impl.FileOk(impl.File{})
			}
			if arg != key || !slices.Equal(texts[:4], texts[4:]) {
				t.Errorf("with %q: %q, %q", key, arg, texts)
			}
		}
	}
}
