package tests

import (
	"slices"
	"strings"
	"testing"

	"loop.example/g00727/impl"
)

// checkProps parses the Raws of the records, one after the other, and expects
// these records at their lines.
func checkProps(t *testing.T, want ...impl.Rec) {
	t.Helper()
	s := ""
	for _, rec := range want {
		s += rec.Raw
	}
	checkPropsParsed(t, s, placed(want))
}

func checkPropsParsed(t *testing.T, s string, want []impl.Rec) {
	t.Helper()
	if got := impl.ParseProps(s); !slices.Equal(got, want) {
		t.Errorf("ParseProps(%q) =\n%+v, want\n%+v", s, got, want)
	}
}

// checkPropsLossless checks what holds for every file: no byte is lost, and
// every record begins at its line.
func checkPropsLossless(t *testing.T, s string) {
	t.Helper()
	got := impl.ParseProps(s)
	raws, line := "", 1
	for i, rec := range got {
		if rec.Raw == "" || rec.Section != "" || rec.Line != line || rec.Kind == impl.RkHead || len(got) > impl.MaxRecs || rec.Kind != impl.RkPair && rec.Key+rec.Value != "" {
			t.Fatalf("ParseProps(%q) has the record %+v at %d", s, rec, i)
		}
		raws += rec.Raw
		line += len(linesBackwards(rec.Raw))
	}
	if raws != s || line != len(linesBackwards(s))+1 {
		t.Fatalf("ParseProps(%q) has the bytes %q", s, raws)
	}
}

func TestPropsFile(t *testing.T) {
	s := "# first\n! second\r\n\n \t\f\r\nhost = example.org \n\tport:80\nname Tab\\u0021\nlist = a, \\\n       b\\\r  # c\nbad = \\u12\n=\n[s]\nlast"
	checkPropsParsed(t, s, []impl.Rec{
		{Kind: impl.RkNote, Raw: "# first\n", Line: 1},
		{Kind: impl.RkNote, Raw: "! second\r\n", Line: 2},
		{Kind: impl.RkBlank, Raw: "\n", Line: 3},
		{Kind: impl.RkBlank, Raw: " \t\f\r\n", Line: 4},
		{Kind: impl.RkPair, Raw: "host = example.org \n", Key: "host", Value: "example.org ", Line: 5},
		{Kind: impl.RkPair, Raw: "\tport:80\n", Key: "port", Value: "80", Line: 6},
		{Kind: impl.RkPair, Raw: "name Tab\\u0021\n", Key: "name", Value: "Tab!", Line: 7},
		{Kind: impl.RkPair, Raw: "list = a, \\\n       b\\\r  # c\n", Key: "list", Value: "a, b# c", Line: 8},
		{Kind: impl.RkOdd, Raw: "bad = \\u12\n", Line: 11},
		{Kind: impl.RkPair, Raw: "=\n", Line: 12},
		{Kind: impl.RkPair, Raw: "[s]\n", Key: "[s]", Line: 13},
		{Kind: impl.RkPair, Raw: "last", Key: "last", Line: 14},
	})
}

func TestPropsLineEnds(t *testing.T) {
	checkProps(t)
	for _, end := range []string{"\n", "\r", "\r\n"} {
		checkProps(t, blankOf(end))
		checkProps(t, blankOf(end), blankOf(end), blankOf(end))
		checkProps(t, pairOf("a=1"+end, "a", "1"))
		checkProps(t, pairOf("a=1"+end, "a", "1"), pairOf("b=2", "b", "2"))
		checkProps(t, noteOf("#"+end), pairOf("a"+end, "a", ""), blankOf(" \t\f"+end), oddOf("\\u"+end), blankOf(" "))
		checkProps(t, noteOf("# a"+end), noteOf("! b"))
		checkProps(t, pairOf("a "+end, "a", ""), oddOf("\\u"))
	}
	checkProps(t, blankOf("\r"), blankOf("\r\n"), blankOf("\n"), blankOf("\r"), blankOf("\r"))
	checkProps(t, pairOf("a=1\r", "a", "1"), pairOf("b=2\n", "b", "2"), pairOf("c=3\r\n", "c", "3"), pairOf("d=4\n", "d", "4"), blankOf("\r"), pairOf("e", "e", ""))
}

func TestPropsBlanksAndNotes(t *testing.T) {
	checkProps(t, blankOf(" \n"), blankOf("\t\n"), blankOf("\f\n"), blankOf("\f \t\f\r\n"), blankOf("   "))
	checkProps(t, noteOf("#\n"), noteOf("!\n"), noteOf("# a = 1\n"), noteOf("!a:1\n"), noteOf("#!\n"), noteOf("!!"))
	checkProps(t, noteOf(" #\n"), noteOf("\t#\n"), noteOf("\f#\n"), noteOf(" !\n"), noteOf("\t!\n"), noteOf("\f!\n"), noteOf(" \t\f \f\t# a\n"), noteOf("\f\f!"))
	checkProps(t, noteOf("# \\u12\n"), noteOf("#\\ud800\n"), noteOf("!\\q\x00\xff\n"), pairOf("a=1\n", "a", "1"))
	checkProps(t, pairOf(";\n", ";", ""), pairOf("; a\n", ";", "a"), pairOf("// a\n", "//", "a"), pairOf("a#b=1\n", "a#b", "1"), pairOf("a! # b\n", "a!", "# b"), pairOf("a=#b!\n", "a", "#b!"), pairOf("a=1 # b\n", "a", "1 # b"), pairOf("a !b\n", "a", "!b"), pairOf("\\#a=1\n", "#a", "1"), pairOf("\\!=1\n", "!", "1"))
}

// TestPropsOtherBlanks: white space is no more than bytes 32, 9 and 12.
func TestPropsOtherBlanks(t *testing.T) {
	for _, b := range []string{"\v", "\x00", "\b", "\x1c", "\x1d", "\x1e", "\x1f", "\x7f", "\x85", "\xa0", "\u0085", "\u00a0", "\u1680", "\u2003", "\u2028", "\u2029", "\u3000", "\ufeff"} {
		checkProps(t, pairOf(b+"\n", b, ""), pairOf(" "+b+"\t\n", b, ""), pairOf(b+b, b+b, ""))
		checkProps(t, pairOf(b+"#\n", b+"#", ""), pairOf(b+"!\n", b+"!", ""), pairOf(b+"a=1\n", b+"a", "1"))
		checkProps(t, pairOf("a"+b+"b=1\n", "a"+b+"b", "1"), pairOf("a"+b+"=1\n", "a"+b, "1"), pairOf("a="+b+"1"+b+"\n", "a", b+"1"+b), pairOf("a "+b+"=1\n", "a", b+"=1"), pairOf("a = "+b+" 1\n", "a", b+" 1"))
		checkProps(t, pairOf("a=b\\\n"+b+" c\n", "a", "b"+b+" c"), pairOf("a=b\\\n "+b+"c\n", "a", "b"+b+"c"))
	}
}

func TestPropsKeyEnds(t *testing.T) {
	for _, end := range []string{
		" ", "\t", "\f", "=", ":",
		" =", "\t=", "\f=", " :", "\t:", "\f:", "= ", "=\t", "=\f", ": ", ":\t", ":\f",
		"  ", "\t\f", "\f ", " = ", " : ", "\t=\f", "\f:\t", " \t\f=", ":\f\t ", "\f \t = \t \f", "   :   ",
	} {
		checkProps(t, pairOf("a"+end+"1\n", "a", "1"), pairOf("b"+end+"2 3", "b", "2 3"))
		checkProps(t, pairOf("a"+end+"\n", "a", ""), pairOf(" \t\fb"+end+"\r\n", "b", ""), pairOf("c"+end, "c", ""))
		checkProps(t, pairOf("ab.c-d"+end+"e f=g:h\n", "ab.c-d", "e f=g:h"))
		checkProps(t, pairOf("a"+end+"\"b\"\n", "a", `"b"`), pairOf("\"a\""+end+"'b'\n", `"a"`, "'b'"), pairOf("\x00\xff"+end+"\xfe\x00\n", "\x00\xff", "\xfe\x00"))
	}
}

func TestPropsTwoSeps(t *testing.T) {
	checkProps(t, pairOf("a==1\n", "a", "=1"), pairOf("a::1\n", "a", ":1"), pairOf("a=:1\n", "a", ":1"), pairOf("a:=1\n", "a", "=1"), pairOf("a===\n", "a", "=="))
	checkProps(t, pairOf("a = = 1\n", "a", "= 1"), pairOf("a\t:\f= 1\n", "a", "= 1"), pairOf("a :\t: 1\n", "a", ": 1"), pairOf("a= :\n", "a", ":"), pairOf("a =\f=\n", "a", "="))
	checkProps(t, pairOf("a b=1\n", "a", "b=1"), pairOf("a b = 1\n", "a", "b = 1"), pairOf("a\tb:1\n", "a", "b:1"), pairOf("a\fb c\n", "a", "b c"), pairOf("a=b=c:d\n", "a", "b=c:d"), pairOf("a:b c\n", "a", "b c"))
}

func TestPropsEmptyParts(t *testing.T) {
	checkProps(t, pairOf("=\n", "", ""), pairOf(":\n", "", ""), pairOf(" =\n", "", ""), pairOf("\f\t: \n", "", ""), pairOf("=", "", ""))
	checkProps(t, pairOf("=1\n", "", "1"), pairOf(": 1\n", "", "1"), pairOf(" = = 1\n", "", "= 1"), pairOf("==\n", "", "="), pairOf("=:\n", "", ":"), pairOf(":=\n", "", "="), pairOf("=a=1\n", "", "a=1"), pairOf("=#\n", "", "#"))
	checkProps(t, pairOf("a\n", "a", ""), pairOf("b \n", "b", ""), pairOf("\tc\f\n", "c", ""), pairOf("d=\n", "d", ""), pairOf("e:\t\n", "e", ""), pairOf("f = \f", "f", ""))
	checkProps(t, pairOf("\\\n\n", "", ""), pairOf("\\\n=1\n", "", "1"), pairOf(" \\\n \\\n \n", "", ""), pairOf("\\", "", ""))
	checkProps(t, pairOf("=\\\n1\n", "", "1"), pairOf("a=\\\n\n", "a", ""), pairOf("a\\\n\n", "a", ""))
}

// TestPropsValueEnds: the white space at the end of a line belongs to the value.
func TestPropsValueEnds(t *testing.T) {
	checkProps(t, pairOf("a=1 \n", "a", "1 "), pairOf("a=1\t\r\n", "a", "1\t"), pairOf("a=1\f\r", "a", "1\f"), pairOf("a 1 \t\f \n", "a", "1 \t\f "), pairOf("a: 1 2  ", "a", "1 2  "))
	checkProps(t, pairOf("a=\\ \n", "a", " "), pairOf("a=\\  b\n", "a", "  b"), pairOf("a=1\\ \n", "a", "1 "), pairOf("a=1\\\\ \n", "a", `1\ `), pairOf("a= \\\t\\\f \n", "a", "\t\f "))
}

func TestPropsBackslashes(t *testing.T) {
	for _, end := range []string{" ", "\t", "\f", "=", ":"} {
		checkProps(t, pairOf("a\\"+end+"b=1\n", "a"+end+"b", "1"), pairOf("a\\"+end+"=1\n", "a"+end, "1"), pairOf("a\\"+end+"\n", "a"+end, ""), pairOf("\\"+end+"\n", end, ""), pairOf("\\"+end+"\\"+end+" 1\n", end+end, "1"))
		checkProps(t, pairOf("a\\\\"+end+"b=1\n", `a\`, "b=1"), pairOf("a\\\\"+end+"\n", `a\`, ""), pairOf("\\\\"+end+"1\n", `\`, "1"))
		checkProps(t, pairOf("a\\\\\\"+end+"b=1\n", `a\`+end+"b", "1"), pairOf("a\\\\\\\\"+end+"b=1\n", `a\\`, "b=1"), pairOf("a\\\\\\\\\\"+end+"b=1\n", `a\\`+end+"b", "1"))
		checkProps(t, pairOf("a\\"+end+end+"b\n", "a"+end, "b"), pairOf("a=b\\"+end+"c\n", "a", "b"+end+"c"), pairOf("a=b\\\\"+end+"c\n", "a", `b\`+end+"c"))
		// The separator that follows the key is none behind a backslash.
		checkProps(t, pairOf("a \\"+end+"b\n", "a", end+"b"), pairOf("a=\\"+end+"b\n", "a", end+"b"), pairOf("a = \\"+end+" b\n", "a", end+" b"), pairOf("a\t\\\\"+end+"b\n", "a", `\`+end+"b"))
		checkProps(t, pairOf(" \\"+end+"a=1\n", end+"a", "1"), pairOf("\f\\\\"+end+"a=1\n", `\`, "a=1"))
	}
	checkProps(t, pairOf("a\\b=c\\d\n", "ab", "cd"), pairOf("\\a\\=\\:\\ b=1\n", "a=: b", "1"), pairOf("a\\u003db=1\n", "a=b", "1"), pairOf("a\\u005c=1\n", `a\`, "1"), pairOf("\\u0020a\\u0009=\\u0020 1\n", " a\t", "  1"), pairOf("\\u0023=1\n", "#", "1"))
	checkProps(t, pairOf("a\\nb\\tc=\\r\\f\\n\n", "a\nb\tc", "\r\f\n"), pairOf("\\ud83d\\ude00=\\uD83D\\uDE00\n", "\U0001f600", "\U0001f600"), pairOf("\\\x00=\\\xff\n", "\x00", "\xff"), pairOf("\\\u00e9=\\\u00e9\n", "\u00e9", "\u00e9"))
}

func TestPropsJoinedLines(t *testing.T) {
	for _, end := range []string{"\n", "\r", "\r\n"} {
		on := "\\" + end
		checkProps(t, pairOf("a=b"+on+"c"+end, "a", "bc"), pairOf("a=b"+on+" \t\fc"+end, "a", "bc"), pairOf("a=b "+on+"\fc", "a", "b c"))
		checkProps(t, pairOf("a="+on+"  b"+on+"\tc"+on+"d"+end, "a", "bcd"), pairOf("e"+on+"f"+on+"=g"+end, "ef", "g"), pairOf("a="+on+on+on+"b"+end, "a", "b"), pairOf("h=i"+end, "h", "i"))
		checkProps(t, pairOf("a=b"+on+end, "a", "b"), pairOf("c=d"+on+" \t\f"+end, "c", "d"), pairOf("e=f"+end, "e", "f"))
		checkProps(t, pairOf("a=b\\\\"+end, "a", `b\`), pairOf("a=b\\\\"+on+"c"+end, "a", `b\c`), pairOf("a=b\\\\\\\\"+end, "a", `b\\`), pairOf("a=b\\\\\\\\"+on+" c"+end, "a", `b\\c`))
		checkProps(t, pairOf("a=b\\\\"+on+"\\\\"+end, "a", `b\\`), pairOf("a=b\\\\"+on+on+"c"+end, "a", `b\c`), pairOf("a=b"+on+"\\\\"+on+"nc"+end, "a", `b\nc`), pairOf("a=b"+on+"\\nc"+end, "a", "b\nc"))
		checkProps(t, noteOf("# a"+on), pairOf("b=c"+end, "b", "c"), noteOf(" !"+on), noteOf("#"+on), blankOf(" "+end), pairOf("a=b"+on+"# c"+on+"d"+end, "a", "b# cd"), noteOf("\f#"+on))
		checkProps(t, pairOf("a=b"+on+"#c"+end, "a", "b#c"), pairOf("a=b"+on+" !c"+end, "a", "b!c"), pairOf("a=b"+on+"c=d"+end, "a", "bc=d"), pairOf("a"+on+"# c"+end, "a#", "c"), pairOf(on+"#a"+end, "#a", ""), pairOf(on+" ! a"+end, "!", "a"))
		checkProps(t, blankOf(" \f"+end), pairOf(" "+on+" a=1"+end, "a", "1"), pairOf("\t"+on+"\f"+end, "", ""), pairOf(on+on+" \t"+end, "", ""), blankOf("\t"+end), noteOf("!"+end))
		checkProps(t, oddOf("a=\\u"+on+" 12"+end), pairOf("a=\\u"+on+" 0041"+end, "a", "A"), pairOf("a=\\u00"+on+"\t41"+end, "a", "A"), pairOf("a=\\ud83d"+on+"\\ude00"+end, "a", "\U0001f600"), oddOf("a=\\ud83d"+on+end))
	}
	checkProps(t, pairOf("a=b\\\rc\\\r\nd\\\n\r", "a", "bcd"), pairOf("e\n", "e", ""))
	checkProps(t, pairOf("a=b\\\n\r\n", "a", "b"), blankOf("\n"), pairOf("c\\\r\r", "c", ""), pairOf("d\n", "d", ""))
}

// TestPropsWhiteSpaceOfJoinedLines: only the white space at the beginning of a line is left out.
func TestPropsWhiteSpaceOfJoinedLines(t *testing.T) {
	for _, w := range []string{" ", "\t", "\f", " \t\f ", "\f\f"} {
		checkProps(t, pairOf("a=b"+w+"\\\n"+w+"c"+w+"\\\n"+w+"d"+w+"\n", "a", "b"+w+"c"+w+"d"+w), pairOf("e=f\n", "e", "f"))
		checkProps(t, pairOf("a"+w+"\\\n"+w+"b\n", "a", "b"), pairOf("a\\\n"+w+"=b\n", "a", "b"), pairOf("a"+w+"\\\n"+w+"="+w+"\\\n"+w+"b\n", "a", "b"), pairOf("a\\\n"+w+"b c\n", "ab", "c"), pairOf("a="+w+"\\\n"+w+"\\\n"+w+"b\n", "a", "b"))
		checkProps(t, pairOf("a=b\\\n"+w+"\n", "a", "b"), pairOf("c"+w+"\n", "c", ""), pairOf("a=b"+w+"\\\n"+w, "a", "b"+w))
		// A line that ends with white space is not continued.
		checkProps(t, pairOf("a=b\\"+w+"\n", "a", "b"+w), pairOf(w+"c=d\n", "c", "d"))
	}
}

func TestPropsJoinedAtTheEnd(t *testing.T) {
	for _, end := range []string{"", "\n", "\r", "\r\n"} {
		checkProps(t, pairOf("a=b\\"+end, "a", "b"))
		checkProps(t, pairOf("c=d\n", "c", "d"), pairOf("a\\"+end, "a", ""))
		checkProps(t, pairOf("a=\\"+end, "a", ""))
		checkProps(t, pairOf("a \\"+end, "a", ""))
		checkProps(t, pairOf("a b \\"+end, "a", "b "))
		checkProps(t, pairOf("\\"+end, "", ""))
		checkProps(t, pairOf(" \f\\"+end, "", ""))
		checkProps(t, pairOf("a=b\\\\\\"+end, "a", `b\`))
		checkProps(t, pairOf("a\\\\\\"+end, `a\`, ""))
		checkProps(t, pairOf("a=b\\\\"+end, "a", `b\`))
		checkProps(t, pairOf("a=b\\\n c\\"+end, "a", "bc"))
		checkProps(t, pairOf("a=b\\\n\\"+end, "a", "b"))
		checkProps(t, pairOf("a=b\\\n \\\\"+end, "a", `b\`))
		checkProps(t, noteOf("# a\\"+end))
		checkProps(t, oddOf("a=\\u004\\"+end))
		checkProps(t, oddOf("a=\\ud83d\\"+end))
	}
}

func TestPropsThatFail(t *testing.T) {
	for _, bad := range []string{`\u`, `\u12`, `\u123`, `\u00g0`, `\uu0041`, `\ud83d`, `\ude00`, `\ud83d\ud83d`, `\ude00\ud83d`, `\ud83d\u0041`, `\ud83d\n`, `\ud83dx`, `\\\u1`} {
		checkProps(t, oddOf(bad+"=1\n"), oddOf(bad+"\n"), oddOf("a"+bad+" 1\n"), oddOf(" "+bad+":\n"), pairOf("b=2\n", "b", "2"))
		checkProps(t, oddOf("a="+bad+"\n"), oddOf("a b"+bad+"\n"), oddOf("= "+bad+"\r\n"), oddOf("a: "+bad+" c\n"), pairOf("b=2\n", "b", "2"), oddOf("a="+bad))
		checkProps(t, oddOf(bad+"="+bad+"\n"), oddOf("a=b\\\n "+bad+"\n"), oddOf(bad+"\\\n=b\\\nc\n"), noteOf("#"+bad+"\n"), oddOf("a=1"+bad+"\\\nx\\\n"))
	}
	// An escape does not go on behind the key.
	checkProps(t, oddOf("\\u00 41=1\n"), oddOf("\\ud83d=\\ude00\n"), oddOf("\\u=0041\n"), oddOf("\\ud83d\\ =\\ude00\n"))
}

func TestPropsMaxRecs(t *testing.T) {
	var list []impl.Rec
	for i := range impl.MaxRecs - 1 {
		list = append(list, []impl.Rec{noteOf("#\r\n"), blankOf("\f\n"), pairOf("a=b\\\n\\\n c\n", "a", "bc"), oddOf("\\u\r")}[i%4])
	}
	checkProps(t, list...)
	for _, last := range []impl.Rec{blankOf(" "), blankOf("\n"), noteOf("# c"), pairOf("a=b\n", "a", "b"), pairOf("a\\\nb\\\nc\n", "abc", ""), oddOf("\\u"), pairOf("a\\", "a", "")} {
		checkProps(t, append(slices.Clone(list), last)...)
	}
	for _, rest := range []string{"\n\n", "\n ", "a=b\nc", "a=b\\\nc\nd\n", "#\r\n\r\n", "a\nb\nc\n", "\\u\n\xff\x00", "=\n" + strings.Repeat("\n", 500)} {
		checkProps(t, append(slices.Clone(list), oddOf(rest))...)
	}
	// Records count, not lines.
	checkProps(t, slices.Repeat([]impl.Rec{pairOf("a=b\\\n\\\nc\n", "a", "bc")}, impl.MaxRecs)...)
}

func TestPropsMaxText(t *testing.T) {
	long := strings.Repeat("v", impl.MaxText-len("a=\n"))
	checkProps(t, pairOf("a="+long+"\n", "a", long))
	checkProps(t, pairOf(long+"=a\n", long, "a"))
	checkProps(t, blankOf(strings.Repeat("\f", impl.MaxText)))
	checkProps(t, noteOf(strings.Repeat("#", impl.MaxText)))
	checkProps(t, pairOf(strings.Repeat("\xff", impl.MaxText), strings.Repeat("\xff", impl.MaxText), ""))
	checkProps(t, pairOf(strings.Repeat("\\", impl.MaxText), strings.Repeat("\\", impl.MaxText/2), ""))
	checkProps(t, pairOf(strings.Repeat("\\\n", impl.MaxText/2), "", ""))
	for _, s := range []string{"a=" + long + "v\n", "a=" + long + "\n\n", strings.Repeat("\n", impl.MaxText+1), strings.Repeat("#", impl.MaxText+1), strings.Repeat("\u00e9", impl.MaxText/2) + "x", strings.Repeat("\\\n", impl.MaxText), strings.Repeat("a=b\n", 100*impl.MaxText)} {
		checkPropsParsed(t, s, nil)
	}
	for _, s := range []string{strings.Repeat("\n", impl.MaxText), strings.Repeat("\r", impl.MaxText), strings.Repeat("a\\\n", impl.MaxText/3), strings.Repeat("\\\r\n", impl.MaxText/3), "a " + strings.Repeat("\\", impl.MaxText-3) + "\n", strings.Repeat("\\u0041", impl.MaxText/6)} {
		checkPropsLossless(t, s)
	}
}

func TestPropsResultsShareNothing(t *testing.T) {
	s := strings.Clone("# n\na=b\\\nc\n \n\\u\n?")
	kept, changed := impl.ParseProps(s), impl.ParseProps(s)
	before := slices.Clone(kept)
	fill(changed[:cap(changed)], impl.Rec{Kind: impl.RkOdd, Raw: "changed"})
	if !slices.Equal(kept, before) || !slices.Equal(impl.ParseProps(s), before) || s != "# n\na=b\\\nc\n \n\\u\n?" {
		t.Errorf("changing one result changes another: %+v", kept)
	}
	full := strings.Repeat("\n", impl.MaxRecs+1)
	kept, changed = impl.ParseProps(full), impl.ParseProps(full)
	before = slices.Clone(kept)
	fill(changed[:cap(changed)], impl.Rec{Kind: impl.RkOdd, Raw: "changed"})
	if !slices.Equal(kept, before) || !slices.Equal(impl.ParseProps(full), before) {
		t.Error("changing one result with MaxRecs records changes another")
	}
}
