package tests

import (
	"fmt"
	"math"
	"slices"
	"strings"
	"testing"

	"loop.example/g00727/impl"
)

func blankOf(raw string) impl.Rec { return impl.Rec{Kind: impl.RkBlank, Raw: raw} }

func noteOf(raw string) impl.Rec { return impl.Rec{Kind: impl.RkNote, Raw: raw} }

func headOf(raw string, section string) impl.Rec {
	return impl.Rec{Kind: impl.RkHead, Raw: raw, Section: section}
}

func pairOf(raw string, key string, value string) impl.Rec {
	return impl.Rec{Kind: impl.RkPair, Raw: raw, Key: key, Value: value}
}

func oddOf(raw string) impl.Rec { return impl.Rec{Kind: impl.RkOdd, Raw: raw} }

// checkIni parses the Raws of the records, one after the other, and expects
// these records, in the sections of their headers and at their lines.
func checkIni(t *testing.T, d impl.Dialect, want ...impl.Rec) {
	t.Helper()
	s := ""
	for _, rec := range want {
		s += rec.Raw
	}
	checkParsed(t, s, d, placed(want))
}

func checkParsed(t *testing.T, s string, d impl.Dialect, want []impl.Rec) {
	t.Helper()
	if got := impl.ParseIni(s, d); !slices.Equal(got, want) {
		t.Errorf("ParseIni(%q, %+v) =\n%+v, want\n%+v", s, d, got, want)
	}
}

// checkLossless checks what holds for every file: no byte is lost, every record
// begins at its line and is in the section of the last header.
func checkLossless(t *testing.T, s string, d impl.Dialect) {
	t.Helper()
	got := impl.ParseIni(s, d)
	raws, section, line := "", "", 1
	for i, rec := range got {
		if rec.Kind == impl.RkHead {
			section = rec.Section
		}
		if rec.Raw == "" || rec.Section != section || rec.Line != line || len(got) > impl.MaxRecs {
			t.Fatalf("ParseIni(%q, %+v) has the record %+v at %d", s, d, rec, i)
		}
		if rec.Kind != impl.RkPair && rec.Key+rec.Value != "" || rec.Kind == impl.RkPair && rec.Key == "" || rec.Kind == impl.RkHead && section == "" {
			t.Fatalf("ParseIni(%q, %+v) has the record %+v at %d", s, d, rec, i)
		}
		raws += rec.Raw
		line += len(linesBackwards(rec.Raw))
	}
	if raws != s || line != len(linesBackwards(s))+1 {
		t.Fatalf("ParseIni(%q, %+v) has the bytes %q", s, d, raws)
	}
}

func TestIniFile(t *testing.T) {
	s := "; first\r\n\n name = Tab # no\n[ web ]\nport: 80\n\thost = \"a;b\" ; c\n?\n[db]\r\nport=1\n"
	checkParsed(t, s, dialect("iqe", impl.JoNone), []impl.Rec{
		{Kind: impl.RkNote, Raw: "; first\r\n", Line: 1},
		{Kind: impl.RkBlank, Raw: "\n", Line: 2},
		{Kind: impl.RkPair, Raw: " name = Tab # no\n", Key: "name", Value: "Tab", Line: 3},
		{Kind: impl.RkHead, Raw: "[ web ]\n", Section: "web", Line: 4},
		{Kind: impl.RkPair, Raw: "port: 80\n", Section: "web", Key: "port", Value: "80", Line: 5},
		{Kind: impl.RkPair, Raw: "\thost = \"a;b\" ; c\n", Section: "web", Key: "host", Value: "a;b", Line: 6},
		{Kind: impl.RkOdd, Raw: "?\n", Section: "web", Line: 7},
		{Kind: impl.RkHead, Raw: "[db]\r\n", Section: "db", Line: 8},
		{Kind: impl.RkPair, Raw: "port=1\n", Section: "db", Key: "port", Value: "1", Line: 9},
	})
	s = "a = x\\\r\n  y\r\n[s]\n\nb = \\\n\\\n1\n[bad\n# \\\nc=2"
	checkParsed(t, s, dialect("iqe", impl.JoMark), []impl.Rec{
		{Kind: impl.RkPair, Raw: "a = x\\\r\n  y\r\n", Key: "a", Value: "xy", Line: 1},
		{Kind: impl.RkHead, Raw: "[s]\n", Section: "s", Line: 3},
		{Kind: impl.RkBlank, Raw: "\n", Section: "s", Line: 4},
		{Kind: impl.RkPair, Raw: "b = \\\n\\\n1\n", Section: "s", Key: "b", Value: "1", Line: 5},
		{Kind: impl.RkOdd, Raw: "[bad\n", Section: "s", Line: 8},
		{Kind: impl.RkNote, Raw: "# \\\n", Section: "s", Line: 9},
		{Kind: impl.RkPair, Raw: "c=2", Section: "s", Key: "c", Value: "2", Line: 10},
	})
	s = "a = x\r  y # c\r\n\tz\n\n[s]\n  b\n"
	checkParsed(t, s, dialect("iqe", impl.JoIndent), []impl.Rec{
		{Kind: impl.RkPair, Raw: "a = x\r  y # c\r\n\tz\n", Key: "a", Value: "x\ny\nz", Line: 1},
		{Kind: impl.RkBlank, Raw: "\n", Line: 4},
		{Kind: impl.RkHead, Raw: "[s]\n", Section: "s", Line: 5},
		{Kind: impl.RkOdd, Raw: "  b\n", Section: "s", Line: 6},
	})
}

func TestIniLineEnds(t *testing.T) {
	for d := range dialectsWith(impl.JoNone, impl.JoMark, impl.JoIndent) {
		checkIni(t, d)
		for _, end := range []string{"\n", "\r", "\r\n"} {
			checkIni(t, d, blankOf(end))
			checkIni(t, d, blankOf(end), blankOf(end), blankOf(end))
			checkIni(t, d, pairOf("a=1"+end, "a", "1"))
			checkIni(t, d, pairOf("a=1"+end, "a", "1"), pairOf("b=2", "b", "2"))
			checkIni(t, d, noteOf("#"+end), headOf("[s]"+end, "s"), blankOf(" \t"+end), oddOf("x"+end), blankOf(" "))
		}
		checkIni(t, d, blankOf("\r"), blankOf("\r\n"), blankOf("\n"), blankOf("\r"), blankOf("\r"))
		checkIni(t, d, pairOf("a=1\r", "a", "1"), pairOf("b=2\n", "b", "2"), pairOf("c=3\r\n", "c", "3"), pairOf("d=4\n", "d", "4"), blankOf("\r"), oddOf("e"))
		checkIni(t, d, pairOf("a=\v\f\u0085\u2028\n", "a", "\v\f\u0085\u2028"))
	}
}

func TestIniBlanksAndNotes(t *testing.T) {
	for d := range dialectsWith(impl.JoNone, impl.JoMark, impl.JoIndent) {
		checkIni(t, d, blankOf("\n"), blankOf(" \n"), blankOf("\t \t\r\n"), blankOf("   "))
		checkIni(t, d, noteOf("#\n"), noteOf("; a = 1\n"), noteOf(" \t# [s]\n"), noteOf("#=\n"), noteOf(";;"))
		checkIni(t, d, headOf("[s]\n", "s"), blankOf("\n"), noteOf("# [t]\n"), noteOf("#\\\n"), noteOf("  ; \\\n"), pairOf("a=1\n", "a", "1"))
		checkIni(t, d, pairOf("!a=1\n", "!a", "1"), oddOf("!\n"), oddOf("\v\n"), oddOf("\u00a0\n"), oddOf("// a\n"), oddOf("\x00\n"))
		d.Notes = "!"
		checkIni(t, d, noteOf("!a=1\n"), pairOf("#a=1\n", "#a", "1"), pairOf(";=2\n", ";", "2"), oddOf("#\n"), oddOf(";\n"))
	}
}

func TestIniHeads(t *testing.T) {
	for d := range dialectsWith(impl.JoNone, impl.JoMark, impl.JoIndent) {
		checkIni(t, d, headOf("[s]\n", "s"), headOf(" \t[t]\t \n", "t"), headOf("[ \ta b\t ]\n", "a b"), headOf("[s]", "s"))
		checkIni(t, d, headOf("[[a]\n", "[a"), headOf("[a=b]\n", "a=b"), headOf("[# a]\n", "# a"), headOf("[\"a\"]\n", `"a"`), headOf("[a # b]\n", "a # b"), headOf("[\x00]\n", "\x00"), headOf("[\xff\xc3]\n", "\xff\xc3"), headOf("[\u00e9]\n", "\u00e9"), headOf("[\\n]\n", `\n`), headOf("[\\]\n", `\`))
		checkIni(t, d, headOf("[s]\n", "s"), oddOf("[]\n"), oddOf("[ \t]\n"), oddOf("[\n"), oddOf("[a\n"), oddOf("[a=1\n"), oddOf("[a]b\n"), oddOf("[a] b\n"), oddOf("[a]]\n"), oddOf("[a] = 1\n"), oddOf("[a]#\n"), oddOf("[a];b\n"), oddOf("[a] b # c\n"), oddOf("[a] [b]\n"), oddOf("[] # a\n"), oddOf("[]a]\n"), oddOf("[a]\\ \n"), oddOf("[a]!\n"), pairOf("k=v\n", "k", "v"))
		checkIni(t, d, oddOf("]\n"), oddOf("a]\n"), oddOf("a[b]\n"), pairOf("a[b]=c\n", "a[b]", "c"))
		if d.Inline {
			checkIni(t, d, headOf("[a] # b\n", "a"), headOf("[b]\t;\n", "b"), headOf("[c]  \t#c]\n", "c"), headOf("[d] # \\q\n", "d"), oddOf("[e] ! f\n"))
		} else {
			checkIni(t, d, oddOf("[a] # b\n"), oddOf("[b]\t;\n"), headOf("[c]  \n", "c"))
		}
		if d.Escapes {
			checkIni(t, d, headOf("[a\\ ]\n", `a\ `), headOf("[a\\\\ ]\n", `a\\`), headOf("[ \\ ]\n", `\ `))
		} else {
			checkIni(t, d, headOf("[a\\ ]\n", `a\`), headOf("[a\\\\ ]\n", `a\\`), headOf("[ \\ ]\n", `\`))
		}
	}
}

func TestIniPairs(t *testing.T) {
	for d := range dialectsWith(impl.JoNone, impl.JoMark, impl.JoIndent) {
		checkIni(t, d, pairOf("a=1\n", "a", "1"), pairOf("b:2\n", "b", "2"), pairOf("a\t= \t1 \n", "a", "1"), pairOf("c d=e f\n", "c d", "e f"))
		checkIni(t, d, pairOf("a=b=c\n", "a", "b=c"), pairOf("a:b=c\n", "a", "b=c"), pairOf("a=b:c\n", "a", "b:c"), pairOf("a = :\n", "a", ":"), pairOf("a==\n", "a", "="))
		checkIni(t, d, pairOf("a=\n", "a", ""), pairOf("a: \t\n", "a", ""), pairOf("a =", "a", ""))
		checkIni(t, d, oddOf("=\n"), oddOf(":1\n"), oddOf(" \t= 1\n"), oddOf("=a=1\n"), oddOf(": = 1\n"), oddOf("a\n"), oddOf("a b\n"))
		checkIni(t, d, pairOf("\"a\"=1\n", `"a"`, "1"), pairOf("a]=1\n", "a]", "1"), pairOf("a#b=1\n", "a#b", "1"), pairOf("a # b = 1\n", "a # b", "1"), pairOf("a=[b]\n", "a", "[b]"), pairOf("a=b\"c\n", "a", `b"c`))
		checkIni(t, d, pairOf("a=#b\n", "a", "#b"), pairOf("a = # b\n", "a", "# b"), pairOf("a=;\n", "a", ";"), pairOf("a=b#c\n", "a", "b#c"), pairOf("a = b ! c\n", "a", "b ! c"))
		checkIni(t, d, pairOf("\x00=\x00\n", "\x00", "\x00"), pairOf("\xff = \xfe\x80\n", "\xff", "\xfe\x80"), pairOf("\u00e9=\u00a0\U0001f600\n", "\u00e9", "\u00a0\U0001f600"), pairOf("\xc3=\xa9\n", "\xc3", "\xa9"))
		if d.Inline {
			checkIni(t, d, pairOf("a=b # c\n", "a", "b"), pairOf("a=b\t;c\n", "a", "b"), pairOf("a=# b # c\n", "a", "# b"), pairOf("a=b#c ;d\n", "a", "b#c"))
		} else {
			checkIni(t, d, pairOf("a=b # c\n", "a", "b # c"), pairOf("a=b\t;c \n", "a", "b\t;c"))
		}
	}
}

func TestIniSeps(t *testing.T) {
	for _, seps := range []string{"=", ":", "=:", ":="} {
		d := impl.Dialect{Notes: "#", Seps: seps}
		switch seps {
		case "=":
			checkIni(t, d, pairOf("a=1\n", "a", "1"), oddOf("b:2\n"), pairOf("c:d=3\n", "c:d", "3"), pairOf(":=4\n", ":", "4"), oddOf("=:5\n"))
		case ":":
			checkIni(t, d, oddOf("a=1\n"), pairOf("b:2\n", "b", "2"), pairOf("c=d:3\n", "c=d", "3"), oddOf(":=4\n"), pairOf("=:5\n", "=", "5"))
		default:
			checkIni(t, d, pairOf("a=1\n", "a", "1"), pairOf("b:2\n", "b", "2"), pairOf("c:d=3\n", "c", "d=3"), pairOf("c=d:3\n", "c", "d:3"), oddOf(":=4\n"), oddOf("=:5\n"))
		}
	}
}

func TestIniQuotedPairs(t *testing.T) {
	for _, join := range []int{impl.JoNone, impl.JoMark, impl.JoIndent} {
		checkIni(t, dialect("iqe", join), pairOf("a=\"b\"\n", "a", "b"), pairOf("a = \" b \" \n", "a", " b "), pairOf("a=\"\"\n", "a", ""), pairOf("a=\"b # c\" # d\n", "a", "b # c"), pairOf("a=\"b\"\t;\n", "a", "b"), pairOf("a=\"b\\\"c\\\\\" # \\q\n", "a", `b"c\`), pairOf("a=\"\\n\"\n", "a", "\n"))
		checkIni(t, dialect("iqe", join), oddOf("a=\"b\n"), oddOf("a=\"b\"# c\n"), oddOf("a=\"b\" c\n"), oddOf("a=\"b\"c\n"), oddOf("a=\"b\\\"\n"), oddOf("a=\"b\\q\"\n"), oddOf("a=\"b # c\n"), oddOf("a=\"b\"\\ \n"), oddOf("a=\"\n"), oddOf("a=\"\"\"\n"), pairOf("a=b\"c\n", "a", `b"c`), pairOf("a=\\\"b\n", "a", `"b`), pairOf("a='b'\n", "a", "'b'"))
		checkIni(t, dialect("qe", join), pairOf("a=\"b\"\t\n", "a", "b"), oddOf("a=\"b\" # c\n"), pairOf("a=\"b # c\"\n", "a", "b # c"))
		checkIni(t, dialect("iq", join), pairOf("a=\"b\\\" # c\n", "a", `b\`), oddOf("a=\"b\\\"c\"\n"), pairOf("a=\"b\\q\"\n", "a", `b\q`))
		checkIni(t, dialect("ie", join), pairOf("a=\"b\"\n", "a", `"b"`), pairOf("a=\"b # c\"\n", "a", `"b`), pairOf("a=\"b\n", "a", `"b`), pairOf("a=\"b\" c\n", "a", `"b" c`))
	}
}

func TestIniEscapes(t *testing.T) {
	checkIni(t, dialect("ie", impl.JoNone), pairOf("a=b\\ \n", "a", "b "), pairOf("a=b\\  \n", "a", "b "), pairOf("a=b\\\\ \n", "a", `b\`), pairOf("a=b\\ # c\n", "a", "b # c"), pairOf("a=b\\\\ # c\n", "a", `b\`), pairOf("a=b\\\t\n", "a", "b\t"), pairOf("a=\\ b\n", "a", " b"), pairOf("a=\\ \n", "a", " "))
	checkIni(t, dialect("ie", impl.JoNone), pairOf("a\\ =b\n", `a\ `, "b"), pairOf("a\\\\ =b\n", `a\\`, "b"), pairOf("a\\q=b\n", `a\q`, "b"), pairOf("a\\=b\n", `a\`, "b"), pairOf("\\ =b\n", `\ `, "b"), pairOf("a\\:b=c\n", `a\`, "b=c"), pairOf("\\#=b\n", `\#`, "b"), oddOf("\\ \n"), oddOf("\\[a]\n"), oddOf("a\\ \n"))
	checkIni(t, dialect("ie", impl.JoNone), headOf("[s]\n", "s"), oddOf("a=b\\\n"), oddOf("a=b\\q\n"), oddOf("a=\\x # c\n"), pairOf("a=b # \\q\n", "a", "b"), oddOf("a=b\\"))
	checkIni(t, dialect("i", impl.JoNone), pairOf("a=b\\ \n", "a", `b\`), pairOf("a=b\\ # c\n", "a", `b\`), pairOf("a\\ =b\\\n", `a\`, `b\`), pairOf("a=b\\q\n", "a", `b\q`), oddOf("\\ \n"))
}

func TestIniMarks(t *testing.T) {
	for d := range dialectsWith(impl.JoMark) {
		for _, end := range []string{"\n", "\r", "\r\n"} {
			on := "\\" + end
			checkIni(t, d, pairOf("a=b"+on+"c"+end, "a", "bc"), pairOf("a=b"+on+" \t c"+end, "a", "bc"), pairOf("a=b "+on+"c", "a", "b c"))
			checkIni(t, d, pairOf("a="+on+"  b"+on+"\tc"+on+"d"+end, "a", "bcd"), pairOf("e"+on+"f"+on+"=g"+end, "ef", "g"), pairOf("a="+on+on+on+"b"+end, "a", "b"))
			checkIni(t, d, pairOf("a=b"+on, "a", "b"))
			checkIni(t, d, pairOf("a=b"+on+"c"+on, "a", "bc"))
			checkIni(t, d, pairOf("a=b"+on+end, "a", "b"), pairOf("c=d"+on+" \t"+end, "c", "d"), pairOf("e=f"+end, "e", "f"))
			checkIni(t, d, headOf("["+on+"s"+on+"]"+end, "s"), headOf("[a "+on+" b]"+end, "a b"), headOf("[t]"+on, "t"))
			checkIni(t, d, headOf("[s]"+on+" \t"+end, "s"), oddOf("[a]"+on+"b=1"+end), oddOf("[a"+on+"b=1"+end), oddOf("x"+on+"y"+end), oddOf("x"+on))
			checkIni(t, d, pairOf("a=b"+on+"#c"+end, "a", "b#c"), pairOf("a=b"+on+"[s]"+end, "a", "b[s]"), pairOf("a=b"+on+"c=d"+end, "a", "bc=d"), pairOf("a=b"+on+"  ;c"+on+"d"+end, "a", "b;cd"), pairOf("e=f"+end, "e", "f"))
			checkIni(t, d, blankOf(on+end), blankOf(" \t"+on+"  "+end), noteOf(on+"# a"+end), headOf(on+" [s]"+end, "s"), pairOf(" "+on+" a=1"+end, "a", "1"), blankOf(on+on+end), oddOf(on+"a"+end), blankOf(on))
			checkIni(t, d, blankOf(" "+end), pairOf("a=b"+on+"c"+end, "a", "bc"), noteOf("# d"+on), pairOf("a=b"+on+"c"+end, "a", "bc"), noteOf(" ;"+on), noteOf("#"+on), headOf("[s]"+end, "s"), pairOf("a=b"+on+"c"+end, "a", "bc"), noteOf(";"+on))
			checkIni(t, d, noteOf("# d"+end), pairOf("a=b"+on+"# c"+on+"d"+end, "a", "b# cd"))
		}
	}
}

func TestIniMarksAndOtherRules(t *testing.T) {
	d := dialect("iqe", impl.JoMark)
	checkIni(t, d, pairOf("a=b \\\n# c\n", "a", "b"), pairOf("a=b # c\\\n d\n", "a", "b"), pairOf("a=\"b\\\n  c\" \\\n # d\n", "a", "bc"), oddOf("a=\"b\\\n\n"), headOf("[s] \\\n # c\\\nd\n", "s"))
	checkIni(t, d, pairOf("a=b\\\\\n", "a", `b\`), pairOf("a=b\\\\\\\nc\n", "a", `b\c`), pairOf("a=b\\\\\\\\\n", "a", `b\\`), pairOf("a=b\\\\\\\n\\\\\n", "a", `b\\`), pairOf("a=b\\\\\\\n\\\nc\n", "a", `b\c`), pairOf("a=b\\\nnc\n", "a", "bnc"))
	checkIni(t, d, oddOf("a=b\\"))
	checkIni(t, d, pairOf("a=b\\\nc\\\\", "a", `bc\`))
	checkIni(t, d, oddOf("a=b\\\nc\\"))
	checkIni(t, d, pairOf("a=b\\ \n", "a", "b "), pairOf("a=b\\ \\\n", "a", "b "))
	checkIni(t, d, pairOf("a=b\\ \\\n \t# c\n", "a", "b # c"), oddOf("a=b\\q\\\nc\n"), pairOf("a=1\n", "a", "1"))
	checkIni(t, d, oddOf("=a\\\nb\n"), oddOf("=\\\n"))
	d = dialect("", impl.JoMark)
	checkIni(t, d, pairOf("a=b\\\\\n", "a", `b\\`), pairOf("a=b\\\\\\\nc\n", "a", `b\\c`), pairOf("a=b\\ \n", "a", `b\`), pairOf("a=b\\", "a", `b\`))
	checkIni(t, d, pairOf("a=b\\\nc\\", "a", `bc\`))
}

// TestIniWithoutMarks: no Join but JoMark removes a backslash.
func TestIniWithoutMarks(t *testing.T) {
	for _, join := range []int{impl.JoNone, impl.JoIndent} {
		checkIni(t, dialect("iq", join), pairOf("a=b\\\n", "a", `b\`), pairOf("c=d\\\r\n", "c", `d\`), oddOf("\\\n"), headOf("[s]\n", "s"), oddOf("[t]\\\n"), noteOf("#\\\n"), pairOf("e=f\\", "e", `f\`))
		checkIni(t, dialect("iqe", join), oddOf("a=b\\\n"), pairOf("c=d\n", "c", "d"), oddOf("\\\n"), headOf("[s]\n", "s"), oddOf("e=f\\"))
	}
}

func TestIniIndents(t *testing.T) {
	for d := range dialectsWith(impl.JoIndent) {
		for _, end := range []string{"\n", "\r", "\r\n"} {
			checkIni(t, d, pairOf("a=b"+end+" c"+end, "a", "b\nc"), pairOf("d=e"+end+"\tf g \t"+end+" \t h", "d", "e\nf g\nh"))
			checkIni(t, d, pairOf("a="+end+" b"+end+" c"+end, "a", "\nb\nc"), pairOf("d = e"+end+"  f"+end, "d", "e\nf"), pairOf("g=h"+end, "g", "h"))
			checkIni(t, d, pairOf("a=b"+end+" c=d"+end+" [s]"+end+" :"+end+" \"e"+end, "a", "b\nc=d\n[s]\n:\n\"e"), pairOf("f=g"+end, "f", "g"))
			checkIni(t, d, pairOf("a=b"+end, "a", "b"), blankOf(" "+end), oddOf(" c"+end), pairOf(" d=e"+end+" f"+end, "d", "e\nf"), blankOf(end), pairOf("\tg=h"+end, "g", "h"))
			checkIni(t, d, pairOf("a=b"+end, "a", "b"), noteOf(" # c"+end), oddOf(" d"+end), noteOf("# e"+end), oddOf(" f"+end), noteOf("\t;"+end), pairOf(" g=h"+end, "g", "h"))
			checkIni(t, d, headOf("[s]"+end, "s"), oddOf(" a"+end), pairOf(" b=c"+end+" [t]"+end, "b", "c\n[t]"), oddOf("x"+end), oddOf(" y"+end), headOf(" [u]"+end, "u"), oddOf("\tz"+end))
			checkIni(t, d, oddOf(" a"+end), oddOf(" b"+end), pairOf("c=d"+end, "c", "d"), headOf("[s]"+end, "s"))
			checkIni(t, d, pairOf("a=b"+end+" !c"+end+" d#"+end, "a", "b\n!c\nd#"), oddOf("\ve"+end), oddOf("\u00a0f"+end))
			checkIni(t, d, pairOf("a=b"+end+" \x00"+end+"\t\xff\xc3"+end+" \u00e9"+end, "a", "b\n\x00\n\xff\xc3\n\u00e9"))
		}
	}
}

func TestIniIndentsAndOtherRules(t *testing.T) {
	checkIni(t, dialect("i", impl.JoIndent), pairOf("a=b # c\n d ; e\n f\n", "a", "b\nd\nf"), pairOf("a=b\n c\\ \n d\\q\n", "a", "b\nc\\\nd\\q"))
	checkIni(t, dialect("", impl.JoIndent), pairOf("a=b # c\n d ; e\n", "a", "b # c\nd ; e"), pairOf("a=\"b\"\n c\n", "a", "\"b\"\nc"), pairOf("a=\"b\n \"c\"\n", "a", "\"b\n\"c\""), pairOf("a=b\\\n c\\\n", "a", "b\\\nc\\"))
	checkIni(t, dialect("q", impl.JoIndent), pairOf("a=\"b\"\n", "a", "b"), oddOf(" c\n"), pairOf("a=\"\"\n", "a", ""), pairOf(" c=d\n e\n", "c", "d\ne"), oddOf("a=\"b\n"), oddOf(" c\"\n"), pairOf("a= b\"c\"\n \"d\"\n", "a", "b\"c\"\n\"d\""))
	checkIni(t, dialect("iq", impl.JoIndent), pairOf("a=\"b\" # c\n", "a", "b"), oddOf(" d\n"), noteOf(" # e\n"))
	checkIni(t, dialect("qe", impl.JoIndent), pairOf("a\\ :\t\"b\"\n", `a\ `, "b"), oddOf(" c\n"), pairOf("a=\\\"b\"\n c\n", "a", "\"b\"\nc"))
	checkIni(t, impl.Dialect{Notes: "#", Seps: "=", Quotes: true, Join: impl.JoIndent}, pairOf("a:\"b=c\n d\n", "a:\"b", "c\nd"), pairOf("a:b=\"c\"\n", "a:b", "c"), oddOf(" d\n"))
	checkIni(t, dialect("ie", impl.JoIndent), pairOf("a=b\\ \n c\\n\\ \n d\\ # e\n", "a", "b \nc\n \nd # e"), pairOf("a=\n \\ \n", "a", "\n "), pairOf("a=b\n \\# c\n", "a", "b\n# c"), pairOf("a=b\n c # \\q\n", "a", "b\nc"))
}

// TestIniIndentsThatFail: such a line is a record of its own, and what follows it belongs to that one, if to any.
func TestIniIndentsThatFail(t *testing.T) {
	d := dialect("ie", impl.JoIndent)
	checkIni(t, d, pairOf("a=b\n", "a", "b"), oddOf(" c\\q\n"), oddOf(" d\n"), oddOf(" e\n"), pairOf("f=g\n h\n", "f", "g\nh"))
	checkIni(t, d, pairOf("a=b\n c\n", "a", "b\nc"), oddOf(" d\\\n"), oddOf(" e\n"))
	checkIni(t, d, pairOf("a=b\n", "a", "b"), oddOf(" c=\\q\n"), oddOf(" d\n"), oddOf("\t\\"))
	checkIni(t, d, pairOf("a=b\n", "a", "b"), pairOf(" c\\q=d\n", `c\q`, "d"), pairOf("e=f\n", "e", "f"), oddOf(" [s\\q]x\n"))
	checkIni(t, d, pairOf("a=b\n", "a", "b"), headOf(" [s\\q]\n", `s\q`), oddOf(" d\n"))
	checkIni(t, d, oddOf("a=\\q\n"), oddOf(" b\n"), pairOf(" c=d\n e\n", "c", "d\ne"))
	checkIni(t, d, pairOf("a=b\n", "a", "b"), pairOf(" c\\q=d\n e\n", `c\q`, "d\ne"))
}

func TestIniWithoutIndents(t *testing.T) {
	for d := range dialectsWith(impl.JoNone, impl.JoMark) {
		checkIni(t, d, pairOf("a=b\n", "a", "b"), oddOf(" c\n"), pairOf("\td=e\n", "d", "e"), headOf(" [s]\n", "s"), noteOf(" # f\n"))
	}
}

func TestIniSections(t *testing.T) {
	for d := range dialectsWith(impl.JoNone, impl.JoMark, impl.JoIndent) {
		got := impl.ParseIni("a=1\n#\n[s]\n\n#\nb=2\nx\n[]\n[t\nc=3\n[t]\nd=4\n[s]\ne=5\n", d)
		var sections []string
		for _, rec := range got {
			sections = append(sections, rec.Section)
		}
		if want := strings.Split(",,s,s,s,s,s,s,s,s,t,t,s,s", ","); !slices.Equal(sections, want) {
			t.Errorf("ParseIni with %+v has the sections %q, want %q", d, sections, want)
		}
	}
}

func TestIniMaxRecs(t *testing.T) {
	for d := range dialectsWith(impl.JoNone, impl.JoMark, impl.JoIndent) {
		var list []impl.Rec
		for i := range impl.MaxRecs - 2 {
			list = append(list, []impl.Rec{noteOf("#\r\n"), blankOf("\n"), pairOf("a=b\n", "a", "b"), oddOf("x\r")}[i%4])
		}
		list = append(list, headOf("[s]\n", "s"))
		checkIni(t, d, list...)
		for _, last := range []impl.Rec{blankOf(" "), noteOf("# c"), headOf("[t]", "t"), pairOf("a=b\n", "a", "b"), oddOf("y")} {
			checkIni(t, d, append(slices.Clone(list), last)...)
		}
		for _, rest := range []string{"\n\n", "[t]\nx", "a=b\n[t]\n", "#\r\n\r\n", "[t]\n[u]\n[v]\n", "a=b\n[t]\nc=d\n?\n\xff\x00", "=\n" + strings.Repeat("\n", 500)} {
			checkIni(t, d, append(slices.Clone(list), oddOf(rest))...)
		}
	}
}

// TestIniMaxRecsOfJoinedLines: records count, not lines.
func TestIniMaxRecsOfJoinedLines(t *testing.T) {
	for join, raw := range map[int]string{impl.JoMark: "a=b\\\n \\\nc\n", impl.JoIndent: "a=b\n c\n d\n"} {
		value := map[int]string{impl.JoMark: "bc", impl.JoIndent: "b\nc\nd"}[join]
		d := dialect("e", join)
		list := slices.Repeat([]impl.Rec{pairOf(raw, "a", value)}, impl.MaxRecs)
		checkIni(t, d, list...)
		checkIni(t, d, append(list[:impl.MaxRecs-1:impl.MaxRecs-1], oddOf(raw+raw))...)
		checkIni(t, d, append(list[:impl.MaxRecs-1:impl.MaxRecs-1], oddOf(raw+"\n"))...)
	}
}

func TestIniMaxText(t *testing.T) {
	for d := range dialectsWith(impl.JoNone, impl.JoMark, impl.JoIndent) {
		long := strings.Repeat("v", impl.MaxText-len("a=\n"))
		checkIni(t, d, pairOf("a="+long+"\n", "a", long))
		checkIni(t, d, blankOf(strings.Repeat(" ", impl.MaxText)))
		checkIni(t, d, oddOf(strings.Repeat("\xff", impl.MaxText)))
		checkParsed(t, "a="+long+"v\n", d, nil)
		checkParsed(t, "a="+long+"\n\n", d, nil)
		checkParsed(t, strings.Repeat("\n", impl.MaxText+1), d, nil)
		checkParsed(t, strings.Repeat("\u00e9", impl.MaxText/2)+"x", d, nil)
		checkParsed(t, strings.Repeat("a=b\n", 100*impl.MaxText), d, nil)
		checkLossless(t, strings.Repeat("\n", impl.MaxText), d)
		checkLossless(t, strings.Repeat("\\\n", impl.MaxText/2), d)
		checkLossless(t, "a=\n"+strings.Repeat(" b\n", impl.MaxText/3-1), d)
		checkLossless(t, "a="+strings.Repeat("\\", impl.MaxText-3)+"\n", d)
	}
}

func TestIniInvalidDialect(t *testing.T) {
	for _, d := range []impl.Dialect{
		{}, {Notes: "#"}, {Seps: "="}, {Notes: "##", Seps: "="}, {Notes: "#;!#", Seps: "="}, {Notes: "x", Seps: "="}, {Notes: "#", Seps: "=="}, {Notes: "#", Seps: "=:="}, {Notes: "#", Seps: "x"}, {Notes: "#", Seps: "#"},
		{Notes: "#", Seps: "=", Join: -1}, {Notes: "#", Seps: "=", Join: 3}, {Notes: "#", Seps: "=", Join: math.MaxInt}, {Notes: "#", Seps: "=", Join: math.MinInt},
	} {
		for _, flag := range []bool{false, true} {
			d.Inline, d.Quotes, d.Escapes = flag, flag, flag
			for _, s := range []string{"", "\n", "a=1\n", "# a\n[s]\nb=2\n", "\x00\xff"} {
				checkParsed(t, s, d, nil)
			}
		}
	}
}

func TestIniByRule(t *testing.T) {
	parts := []string{"a", "=", " ", "\n", "\\", "#", "\"", "[s]", "b\\\n", "\nc=\"d\" ", "\n e", "]"}
	for d := range dialectsWith(impl.JoNone, impl.JoMark, impl.JoIndent) {
		t.Run(fmt.Sprintf("%+v", d), func(t *testing.T) {
			t.Parallel()
			rules := rulesOf(d)
			for s := range joinsOf(parts, 3) {
				checkParsed(t, s, d, rules.parse(s))
				checkParsed(t, "k="+s, d, rules.parse("k="+s))
				checkParsed(t, "k=v\n"+s+"\n w", d, rules.parse("k=v\n"+s+"\n w"))
			}
		})
	}
}

func TestIniLosesNoByte(t *testing.T) {
	for d := range dialectsWith(impl.JoNone, impl.JoMark, impl.JoIndent) {
		for s := range textsOf("a= \r\n\\[]", 5) {
			checkLossless(t, s, d)
		}
	}
}

func TestIniOfEveryByte(t *testing.T) {
	for d := range dialectsWith(impl.JoNone, impl.JoMark, impl.JoIndent) {
		rules := rulesOf(d)
		for i := range 256 {
			b := string([]byte{byte(i)})
			for _, s := range []string{b, b + b, b + "=" + b, "a=" + b + "c", "a=\\" + b, "[" + b + "]", "[s]" + b, "a=\"c\"" + b, "a=c " + b + " e", "a=c" + b + "#", "a" + b + "c", "a=c\n" + b + "e", "a=c\\" + b + "e", "a=c\\\n" + b} {
				checkParsed(t, s, d, rules.parse(s))
				checkLossless(t, s, d)
			}
		}
	}
}

func TestIniResultsShareNothing(t *testing.T) {
	const s = "# n\n[s]\na=b\\\nc\n e\n?"
	for d := range dialectsWith(impl.JoNone, impl.JoMark, impl.JoIndent) {
		kept, changed := impl.ParseIni(s, d), impl.ParseIni(s, d)
		before := slices.Clone(kept)
		fill(changed[:cap(changed)], impl.Rec{Kind: impl.RkOdd, Raw: "changed"})
		if !slices.Equal(kept, before) || !slices.Equal(impl.ParseIni(s, d), before) {
			t.Errorf("changing one result changes another: %+v", kept)
		}
	}
}
