package tests

import (
	"slices"
	"strings"
	"testing"

	"loop.example/g00727/impl"
)

// checkEnv parses the Raws of the records, one after the other, and expects
// these records at their lines.
func checkEnv(t *testing.T, want ...impl.Rec) {
	t.Helper()
	s := ""
	for _, rec := range want {
		s += rec.Raw
	}
	checkEnvParsed(t, s, placed(want))
	checkEnvLossless(t, s)
}

func checkEnvParsed(t *testing.T, s string, want []impl.Rec) {
	t.Helper()
	if got := impl.ParseEnv(s); !slices.Equal(got, want) {
		t.Errorf("ParseEnv(%q) =\n%+v, want\n%+v", s, got, want)
	}
}

// checkEnvLossless checks what holds for every file: no byte is lost, every
// record begins at its line, and a pair, but nothing else, has a variable name.
func checkEnvLossless(t *testing.T, s string) {
	t.Helper()
	got := impl.ParseEnv(s)
	raws, line := "", 1
	for i, rec := range got {
		if rec.Raw == "" || rec.Section != "" || rec.Line != line || rec.Kind == impl.RkHead || len(got) > impl.MaxRecs {
			t.Fatalf("ParseEnv(%q) has the record %+v at %d", s, rec, i)
		}
		if rec.Kind != impl.RkPair && rec.Key+rec.Value != "" || rec.Kind == impl.RkPair && !envName.MatchString(rec.Key) {
			t.Fatalf("ParseEnv(%q) has the record %+v at %d", s, rec, i)
		}
		raws += rec.Raw
		line += len(linesBackwards(rec.Raw))
	}
	if raws != s || line != len(linesBackwards(s))+1 {
		t.Fatalf("ParseEnv(%q) has the bytes %q", s, raws)
	}
}

func TestEnvFile(t *testing.T) {
	s := "# first\n\n \t\r\n  # second\nHOST = example.org # no\nexport PORT=80\n\texport\t DIR='$HOME\\n'\r\nTEXT=\"a\\tb \\$ ${X:-y}\n# c\" # d\nLIST=a,b#c\r?\nBAD='open\n2X=3\nLAST=$PORT"
	checkEnvParsed(t, s, []impl.Rec{
		{Kind: impl.RkNote, Raw: "# first\n", Line: 1},
		{Kind: impl.RkBlank, Raw: "\n", Line: 2},
		{Kind: impl.RkBlank, Raw: " \t\r\n", Line: 3},
		{Kind: impl.RkNote, Raw: "  # second\n", Line: 4},
		{Kind: impl.RkPair, Raw: "HOST = example.org # no\n", Key: "HOST", Value: "example.org", Line: 5},
		{Kind: impl.RkPair, Raw: "export PORT=80\n", Key: "PORT", Value: "80", Line: 6},
		{Kind: impl.RkPair, Raw: "\texport\t DIR='$HOME\\n'\r\n", Key: "DIR", Value: "$$HOME\\n", Line: 7},
		{Kind: impl.RkPair, Raw: "TEXT=\"a\\tb \\$ ${X:-y}\n# c\" # d\n", Key: "TEXT", Value: "a\tb $$ ${X:-y}\n# c", Line: 8},
		{Kind: impl.RkPair, Raw: "LIST=a,b#c\r", Key: "LIST", Value: "a,b#c", Line: 10},
		{Kind: impl.RkOdd, Raw: "?\n", Line: 11},
		{Kind: impl.RkOdd, Raw: "BAD='open\n", Line: 12},
		{Kind: impl.RkOdd, Raw: "2X=3\n", Line: 13},
		{Kind: impl.RkPair, Raw: "LAST=$PORT", Key: "LAST", Value: "$PORT", Line: 14},
	})
}

func TestEnvLineEnds(t *testing.T) {
	checkEnv(t)
	for _, end := range []string{"\n", "\r", "\r\n"} {
		checkEnv(t, blankOf(end))
		checkEnv(t, blankOf(end), blankOf(end), blankOf(end))
		checkEnv(t, pairOf("a=1"+end, "a", "1"))
		checkEnv(t, pairOf("a=1"+end, "a", "1"), pairOf("b=2", "b", "2"))
		checkEnv(t, pairOf("a='1'"+end, "a", "1"), pairOf("b=\"2\" # c"+end, "b", "2"), pairOf("c='3'", "c", "3"))
		checkEnv(t, noteOf("#"+end), pairOf("a="+end, "a", ""), blankOf(" \t"+end), oddOf("x"+end), blankOf(" "))
		checkEnv(t, noteOf("# a"+end), noteOf(" # b"))
		checkEnv(t, oddOf("a=\"b"+end), oddOf("c='d"))
	}
	checkEnv(t, blankOf("\r"), blankOf("\r\n"), blankOf("\n"), blankOf("\r"), blankOf("\r"))
	checkEnv(t, pairOf("a=1\r", "a", "1"), pairOf("b=2\n", "b", "2"), pairOf("c=3\r\n", "c", "3"), pairOf("d=4\n", "d", "4"), blankOf("\r"), oddOf("e"))
}

func TestEnvBlanksAndNotes(t *testing.T) {
	checkEnv(t, blankOf(" \n"), blankOf("\t\n"), blankOf("\t \t\r\n"), blankOf("   "))
	checkEnv(t, noteOf("#\n"), noteOf("##\n"), noteOf("# a=1\n"), noteOf("#a='b\n"), noteOf(" #\n"), noteOf("\t#\n"), noteOf(" \t \t# a\n"), noteOf("#\\\n"), noteOf("# \"\n"), noteOf("#\x00\xff\n"), pairOf("a=1\n", "a", "1"), noteOf("\t#"))
	checkEnv(t, oddOf(";\n"), oddOf("! a\n"), oddOf("// a\n"), oddOf(";a=1\n"), oddOf("[s]\n"), oddOf("a # b\n"), oddOf("export # a=1\n"))
}

// TestEnvOtherBlanks: a blank is no more than a byte 32 or 9.
func TestEnvOtherBlanks(t *testing.T) {
	for _, b := range []string{"\v", "\f", "\x00", "\b", "\x1c", "\x1f", "\x7f", "\x85", "\xa0", "\u0085", "\u00a0", "\u1680", "\u2003", "\u2028", "\u2029", "\u3000", "\ufeff"} {
		checkEnv(t, oddOf(b+"\n"), oddOf(" "+b+"\t\n"), oddOf(b+"#\n"), oddOf(b+"a=1\n"), oddOf("a"+b+"=1\n"), oddOf("a "+b+"=1\n"), oddOf(b+"export a=1\n"), oddOf("export"+b+"a=1\n"), oddOf("export "+b+"a=1\n"))
		checkEnv(t, pairOf("a="+b+"\n", "a", b), pairOf("a= "+b+" b"+b+" \n", "a", b+" b"+b), pairOf("a="+b+"# c\n", "a", b+"# c"), pairOf("a=b"+b+"# c\n", "a", "b"+b+"# c"), pairOf("a=b"+b+" # c\n", "a", "b"+b))
		checkEnv(t, oddOf("a="+b+"'b'\n"), oddOf("a="+b+"\"b\"\n"), oddOf("a='b'"+b+"\n"), oddOf("a=\"b\""+b+"\n"), oddOf("a='b' "+b+"# c\n"), oddOf("a=\"b\""+b+"# c\n"), oddOf("a='b'"+b+"\n"), pairOf("a='"+b+"' #"+b+"\n", "a", b), pairOf("a=\""+b+"\\"+b+"\"\n", "a", b+`\`+b))
	}
}

func TestEnvExport(t *testing.T) {
	checkEnv(t, pairOf("export a=1\n", "a", "1"), pairOf("export  a=1\n", "a", "1"), pairOf("export\ta=1\n", "a", "1"), pairOf("export \t  \ta=1\n", "a", "1"), pairOf(" \texport a = 1 \n", "a", "1"), pairOf("export a=", "a", ""))
	checkEnv(t, pairOf("export a='b\nc'\n", "a", "b\nc"), pairOf("export a=\"b\r\nc\" # d\r\n", "a", "b\r\nc"), pairOf("export export=1\n", "export", "1"), pairOf("export exporta=1\n", "exporta", "1"), pairOf("export export = 1\n", "export", "1"))
	// Without a blank behind it, it is (the beginning of) a key.
	checkEnv(t, pairOf("exporta=1\n", "exporta", "1"), pairOf("export=1\n", "export", "1"), pairOf("export1=2\n", "export1", "2"), pairOf("export_=2\n", "export_", "2"), oddOf("export-a=1\n"), oddOf("export.a=1\n"), pairOf("\texport='1'\n", "export", "1"))
	// With a blank behind it, it is no key, not even ahead of a separator.
	checkEnv(t, oddOf("export =1\n"), oddOf("export\t= 1\n"), oddOf("export \t =\n"), oddOf("export ='a'\n"))
	checkEnv(t, oddOf("export\n"), oddOf("export \n"), oddOf("export a\n"), oddOf("export a b=1\n"), oddOf("export export a=1\n"), oddOf("export\texport\ta=1\n"), oddOf("export export\n"), oddOf("a export b=1\n"), oddOf("export 1a=1\n"), oddOf("export 'a'=1\n"), oddOf("export"))
	checkEnv(t, oddOf("Export a=1\n"), oddOf("EXPORT a=1\n"), oddOf("exporT\ta=1\n"), oddOf("xexport a=1\n"), oddOf("set a=1\n"), pairOf("EXPORT=1\n", "EXPORT", "1"), pairOf("expor=1\n", "expor", "1"), oddOf("expor a=1\n"), oddOf("export\\ a=1\n"), oddOf("export\n"), pairOf("a=1\n", "a", "1"))
}

func TestEnvKeys(t *testing.T) {
	checkEnv(t, pairOf("a=1\n", "a", "1"), pairOf("A=1\n", "A", "1"), pairOf("_=1\n", "_", "1"), pairOf("a_B9=1\n", "a_B9", "1"), pairOf(" a=1\n", "a", "1"), pairOf("\t \ta=1\n", "a", "1"))
	for _, sep := range []string{"=", " =", "= ", " = ", "\t=", "=\t", " \t = \t ", "  =\t"} {
		checkEnv(t, pairOf("a"+sep+"1\n", "a", "1"), pairOf("a"+sep+"\n", "a", ""), pairOf("a"+sep+"'b'\n", "a", "b"), pairOf("a"+sep+"\"b\"\n", "a", "b"), pairOf("a"+sep+"# b\n", "a", ""), pairOf("a"+sep+"=\n", "a", "="), pairOf(" a"+sep+"b c\n", "a", "b c"), pairOf("a"+sep, "a", ""))
		checkEnv(t, oddOf(sep+"1\n"), oddOf(sep+"\n"), oddOf("\t"+sep+"'a'\n"), oddOf("a b"+sep+"1\n"), oddOf(sep))
	}
	long := strings.Repeat("n", 40)
	checkEnv(t, pairOf(long+"=1\n", long, "1"), pairOf("  export "+long+" = 1\n", long, "1"), oddOf(long+"n=1\n"), oddOf("export "+long+"n=1\n"), oddOf(long+"n='\n"))
	for _, key := range []string{"1", "1a", "a-b", "a.b", "a b", "a\tb", "a:", "$a", "a$", "'a'", `"a"`, `\a`, "a#", "a #", "a[0]", "\u00e9", "a\u00e9", "\xff", "a\xff", "a\x00", "\x00", "a+", "-", "()"} {
		checkEnv(t, oddOf(key+"=1\n"), oddOf(" "+key+" = 'b'\n"), oddOf("export "+key+"=\"b\"\n"), pairOf("c=d\n", "c", "d"), oddOf(key+"="))
	}
	checkEnv(t, oddOf("a\n"), oddOf("a b\n"), oddOf("a:1\n"), oddOf("'a'\n"), oddOf("\"a\"\n"), oddOf("'a\n"), oddOf("b'\n"), oddOf("\\\n"), oddOf("$\n"), oddOf("a"))
	// A key is in its line alone.
	checkEnv(t, oddOf("a\n"), oddOf("=1\n"), oddOf("export\n"), pairOf("b=2\n", "b", "2"), oddOf("export \n"), pairOf("c=\n", "c", ""), oddOf("1\n"))
}

func TestEnvSeps(t *testing.T) {
	checkEnv(t, pairOf("a==\n", "a", "="), pairOf("a=b=c\n", "a", "b=c"), pairOf("a==b\n", "a", "=b"), pairOf("a = = b = \n", "a", "= b ="), pairOf("a='b=c'\n", "a", "b=c"), pairOf("a=\"=\"\n", "a", "="), pairOf("a=:b\n", "a", ":b"), oddOf("a:=b\n"), oddOf("a:b\n"))
}

func TestEnvBare(t *testing.T) {
	checkEnv(t, pairOf("a=b\n", "a", "b"), pairOf("a= b \n", "a", "b"), pairOf("a=\t \tb c\t \n", "a", "b c"), pairOf("a=b  c\td\n", "a", "b  c\td"), pairOf("a= \t\n", "a", ""), pairOf("a=\r\n", "a", ""), pairOf("a=b ", "a", "b"))
	checkEnv(t, pairOf("a=", "a", ""))
	checkEnv(t, pairOf("a=$b\n", "a", "$b"), pairOf("a=$$\n", "a", "$$"), pairOf("a=$\n", "a", "$"), pairOf("a=${b:-c d}/e\n", "a", "${b:-c d}/e"), pairOf("a=${\n", "a", "${"), pairOf("a=x$$$y\n", "a", "x$$$y"))
	checkEnv(t, pairOf("a=\\\n", "a", `\`), pairOf("b=\\\\\n", "b", `\\`), pairOf("a=b\\\n", "a", `b\`), pairOf("c=\\n\\$\\q\n", "c", `\n\$\q`), pairOf("a=b\\ \n", "a", `b\`), pairOf("a=\\\\", "a", `\\`))
	checkEnv(t, pairOf("a=\x00\n", "a", "\x00"), pairOf("a=\xff\xc3 \xa9\n", "a", "\xff\xc3 \xa9"), pairOf("a=\u00e9\U0001f600\u00a0\n", "a", "\u00e9\U0001f600\u00a0"), pairOf("a=[b];c!\n", "a", "[b];c!"), pairOf("a=`b`\n", "a", "`b`"))
}

func TestEnvNotesBehindBare(t *testing.T) {
	checkEnv(t, pairOf("a=#\n", "a", ""), pairOf("a=#b\n", "a", ""), pairOf("a=# b # c\n", "a", ""), pairOf("a= #b\n", "a", ""), pairOf("a=\t#\n", "a", ""), pairOf("a = \t # b\n", "a", ""), pairOf("a=##\n", "a", ""), pairOf("a=#", "a", ""))
	checkEnv(t, pairOf("a=b #\n", "a", "b"), pairOf("a=b # c\n", "a", "b"), pairOf("a=b\t#c\n", "a", "b"), pairOf("a=b \t #c\n", "a", "b"), pairOf("a=b #c #d\n", "a", "b"), pairOf("a=b c # d\n", "a", "b c"), pairOf("a=b #\x00\xff", "a", "b"))
	checkEnv(t, pairOf("a=b#\n", "a", "b#"), pairOf("a=b#c\n", "a", "b#c"), pairOf("a=b## #c\n", "a", "b##"), pairOf("a=b#c d#e #f\n", "a", "b#c d#e"), pairOf("a==#b\n", "a", "=#b"), pairOf("a=\\#b\n", "a", `\#b`), pairOf("a=$#b\n", "a", "$#b"), pairOf("a=b\\ #c\n", "a", `b\`), pairOf("a=\\ #c\n", "a", `\`), pairOf("a=\x00#\xff#b\n", "a", "\x00#\xff#b"))
	checkEnv(t, pairOf("a=b ;c\n", "a", "b ;c"), pairOf("a=b !c\n", "a", "b !c"), pairOf("a=b // c\n", "a", "b // c"))
	for _, quote := range []string{"'", `"`} {
		checkEnv(t, oddOf("a=b"+quote+"\n"), oddOf("a=b"+quote+"c"+quote+"\n"), oddOf("a=b "+quote+"c"+quote+"\n"), oddOf("a=$"+quote+"b"+quote+"\n"), oddOf("a=\\"+quote+"b\n"), oddOf("a=b"+quote))
		checkEnv(t, oddOf("a=b"+quote+" # c\n"), oddOf("a=b"+quote+"#c\n"), oddOf("a=b#"+quote+"\n"), oddOf("a=b#"+quote+" # c\n"), oddOf("a=b"+quote+" #"+quote+"\n"), oddOf("a=b\\"+quote+"\t# c\n"), oddOf("a=="+quote+"b"+quote+"\n"), oddOf("a="+"$x"+quote+"\n"), pairOf("c="+quote+"d\n"+quote+"\n", "c", "d\n"))
		checkEnv(t, pairOf("a=b # "+quote+"\n", "a", "b"), pairOf("a=#"+quote+"\n", "a", ""), pairOf("a= # "+quote+"b"+quote+"\n", "a", ""), pairOf("a=b\t#"+quote+"c\n", "a", "b"), pairOf("a=b #c"+quote, "a", "b"))
		checkEnv(t, noteOf("#"+quote+"\n"), oddOf(quote+"\n"), oddOf(quote+"a"+quote+"\n"), oddOf("a="+quote))
	}
}

func TestEnvApostrophes(t *testing.T) {
	checkEnv(t, pairOf("a=''\n", "a", ""), pairOf("a='b'\n", "a", "b"), pairOf("a= ' b\tc '\n", "a", " b\tc "), pairOf("a=\t'b'\n", "a", "b"), pairOf("a=' '\n", "a", " "), pairOf("a=''", "a", ""))
	checkEnv(t, pairOf("a='$b'\n", "a", "$$b"), pairOf("a='$'\n", "a", "$$"), pairOf("a='$$'\n", "a", "$$$$"), pairOf("a='${b:-$c}'\n", "a", "$${b:-$$c}"), pairOf("a='b$\n$c'\n", "a", "b$$\n$$c"))
	checkEnv(t, pairOf("a='\"'\n", "a", `"`), pairOf("a='\"b\"'\n", "a", `"b"`), pairOf("a='\"\n\"\"'\n", "a", "\"\n\"\""), pairOf("a='#'\n", "a", "#"), pairOf("a='b # c'\n", "a", "b # c"), pairOf("a=' #\n# b'\n", "a", " #\n# b"), pairOf("a='='\n", "a", "="))
	// A backslash is a byte as any other.
	checkEnv(t, pairOf("a='\\'\n", "a", `\`), pairOf("a='\\\\'\n", "a", `\\`), pairOf("a='\\n\\t\\$\\\"'\n", "a", `\n\t\$$\"`), pairOf("a='b\\' # c\n", "a", `b\`), oddOf("a='b\\'c'\n"), pairOf("a='\\\n'\n", "a", "\\\n"))
	checkEnv(t, pairOf("a='\x00'\n", "a", "\x00"), pairOf("a='\xff\n\xc3'\n", "a", "\xff\n\xc3"), pairOf("a='\u00e9\U0001f600'\n", "a", "\u00e9\U0001f600"), pairOf("a='\v\f\u2028\u0085'\n", "a", "\v\f\u2028\u0085"))
}

func TestEnvQuotesOverLines(t *testing.T) {
	for _, end := range []string{"\n", "\r", "\r\n"} {
		for _, quote := range []string{"'", `"`} {
			checkEnv(t, pairOf("a="+quote+end+quote+end, "a", end), pairOf("b=1"+end, "b", "1"), pairOf("a="+quote+end+quote, "a", end))
			checkEnv(t, pairOf("a="+quote+"b"+end+"c"+quote+end, "a", "b"+end+"c"), pairOf("a="+quote+"b"+end+quote+" # c"+end, "a", "b"+end), pairOf("a="+quote+end+"b"+quote+"\t"+end, "a", end+"b"), blankOf(end))
			many := strings.Repeat(" b"+end, 100) + strings.Repeat(end, 100) + strings.Repeat("c=d # e"+end, 50)
			checkEnv(t, noteOf("# a"+end), pairOf("a="+quote+many+quote+end, "a", many), pairOf("b=1"+end, "b", "1"), pairOf("\texport c = "+quote+many+"\t"+quote+" #"+end, "c", many+"\t"), oddOf("d"))
			// What is within the quotes is no record, and the comment is not continued.
			checkEnv(t, pairOf("a="+quote+end+"# b"+end+"c=d"+end+" "+end+"?"+quote+end, "a", end+"# b"+end+"c=d"+end+" "+end+"?"), noteOf("#"+quote+end), pairOf("a="+quote+end+quote+" # "+quote+end, "a", end), oddOf("b"+quote+end))
			checkEnv(t, pairOf("a="+quote+"b"+quote+" "+end, "a", "b"), blankOf(" "+end), noteOf(" # c"+end), oddOf(quote+end))
		}
		checkEnv(t, pairOf("a='\""+end+"\"'"+end, "a", "\""+end+"\""), pairOf("a=\"'"+end+"'\""+end, "a", "'"+end+"'"), pairOf("a='\""+end+"b=\"'"+end, "a", "\""+end+"b=\""), pairOf("b=1", "b", "1"))
	}
	checkEnv(t, pairOf("a='b\rc\r\nd\ne'\r", "a", "b\rc\r\nd\ne"), pairOf("a=\"\n\r\n\r\r\n\n\"\n", "a", "\n\r\n\r\r\n\n"), pairOf("b='\r'\r\n", "b", "\r"), pairOf("c=\"\n\"\r", "c", "\n"), blankOf("\r\n"))
}

func TestEnvDoubleQuotes(t *testing.T) {
	checkEnv(t, pairOf("a=\"\"\n", "a", ""), pairOf("a=\"b\"\n", "a", "b"), pairOf("a= \" b\tc \"\n", "a", " b\tc "), pairOf("a=\t\"b\"\n", "a", "b"), pairOf("a=\" \"\n", "a", " "), pairOf("a=\"\"", "a", ""))
	checkEnv(t, pairOf("a=\"$b\"\n", "a", "$b"), pairOf("a=\"$\"\n", "a", "$"), pairOf("a=\"$$\"\n", "a", "$$"), pairOf("a=\"${b:-c}\n$d\"\n", "a", "${b:-c}\n$d"), pairOf("a=\"${\"\n", "a", "${"))
	checkEnv(t, pairOf("a=\"'\"\n", "a", "'"), pairOf("a=\"'b'\"\n", "a", "'b'"), pairOf("a=\"#\"\n", "a", "#"), pairOf("a=\"b # c\"\n", "a", "b # c"), pairOf("a=\" #\n# b\"\n", "a", " #\n# b"), pairOf("a=\"=\"\n", "a", "="))
	checkEnv(t, pairOf("a=\"\x00\"\n", "a", "\x00"), pairOf("a=\"\xff\n\xc3\"\n", "a", "\xff\n\xc3"), pairOf("a=\"\u00e9\U0001f600\"\n", "a", "\u00e9\U0001f600"), pairOf("a=\"\v\f\u2028\u0085\"\n", "a", "\v\f\u2028\u0085"))
}

func TestEnvEscapes(t *testing.T) {
	for written, value := range map[string]string{
		`\n`: "\n", `\t`: "\t", `\r`: "\r", `\\`: `\`, `\"`: `"`, `\$`: "$$",
		`a\nb`: "a\nb", `\n\t\r`: "\n\t\r", `\\\\`: `\\`, `\\n`: `\n`, `\\\n`: "\\\n", `\"\"`: `""`, `\$\$`: "$$$$", `\$$`: "$$$", `$\$`: "$$$", `\$b`: "$$b", `\${b}`: "$${b}", `\\$b`: `\$b`, `\\\$b`: `\$$b`, `$b\\`: `$b\`, `\\"`[:2] + `\"`: `\"`,
		`\q`: `\q`, `\N`: `\N`, `\T`: `\T`, `\'`: `\'`, `\#`: `\#`, `\ `: `\ `, "\\\t": "\\\t", `\0`: `\0`, `\u0041`: `\u0041`, `\f`: `\f`, `\b`: `\b`, "\\`": "\\`", `\=`: `\=`, "\\\x00": "\\\x00", "\\\xff": "\\\xff", "\\\u00e9": "\\\u00e9", `\q\n\q`: "\\q\n\\q",
		"\\\n": "\\\n", "\\\r": "\\\r", "\\\r\n": "\\\r\n", "a\\\nb": "a\\\nb", "\\\\\nb": "\\\nb", "\\\\\\\n": "\\\\\n", "\\\n\\n": "\\\n\n",
	} {
		checkEnv(t, pairOf("a=\""+written+"\"\n", "a", value), pairOf(" b = \""+written+"\" # c\r\n", "b", value), pairOf("c=\"x"+written+"y\n"+written+"\"", "c", "x"+value+"y\n"+value))
	}
}

func TestEnvBackslashesAheadOfQuotes(t *testing.T) {
	for n := range 12 {
		on, half := strings.Repeat(`\`, n), strings.Repeat(`\`, n/2)
		if n%2 == 0 {
			checkEnv(t, pairOf("a=\""+on+"\"\n", "a", half), pairOf("a=\"b"+on+"\" # c\n", "a", "b"+half), pairOf("a=\"b\n"+on+"\"\n", "a", "b\n"+half), oddOf("a=\"b"+on+"\"c\"\n"), pairOf("b=1\n", "b", "1"), pairOf("a=\"\\"+"\""+on+"\"", "a", `"`+half))
		} else {
			checkEnv(t, pairOf("a=\""+on+"\"\"\n", "a", half+`"`), pairOf("a=\"b"+on+"\" # c\n\"\n", "a", "b"+half+"\" # c\n"), pairOf("a=\"b"+on+"\"c\" # d\n", "a", "b"+half+`"c`), pairOf("a=\"\n"+on+"\"\n\"\n", "a", "\n"+half+"\"\n"))
			checkEnv(t, oddOf("a=\"b"+on+"\"\n"), blankOf("\n"), pairOf("b=1\n", "b", "1"), oddOf("a=\""+on+"\""))
		}
		// There is no closing quote.
		checkEnv(t, oddOf("a=\"b"+on+"\n"), pairOf("c=d\n", "c", "d"), oddOf("a=\"b"+on))
		checkEnv(t, oddOf("a=\""+on))
		checkEnv(t, oddOf("a='b"+on+"\n"), oddOf("a=\"b"+on))
	}
}

func TestEnvBehindClosingQuote(t *testing.T) {
	for _, value := range []string{"''", `""`, "'b'", `"b"`, "'b\nc'", "\"b\r\nc\"", "'\n\n\n'", "\"\r\""} {
		inner := value[1 : len(value)-1]
		for _, after := range []string{"", " ", "\t", " \t ", " #", "\t#", " # c", "\t \t#c", " ##", " # '", " # \"", " #\x00\xff", " # c # d"} {
			checkEnv(t, pairOf("a="+value+after+"\n", "a", inner), pairOf(" export a = "+value+after+"\r\n", "a", inner), pairOf("d=e\n", "d", "e"), pairOf("a="+value+after, "a", inner))
		}
	}
	for _, quote := range []string{"'", `"`} {
		for _, after := range []string{"#", "#c", "c", " c", " c # d", "c #", ";", " ;", " !", "\\", " \\", "$b", "=", "\x00", "\v", " \f", "\xff", "\u00a0", "\u00a0# c", "\\ # c", "(", "# "} {
			checkEnv(t, oddOf("a="+quote+"b"+quote+after+"\n"), pairOf("c=d\n", "c", "d"), oddOf(" export a = "+quote+quote+after+"\r\n"), oddOf("a="+quote+quote+after))
		}
		other := `'"`[strings.IndexByte(`"'`, quote[0]):][:1]
		for _, after := range []string{quote, other, quote + quote, other + other, other + "b" + other, " " + quote + "b" + quote, " " + other, quote + " # c"} {
			checkEnv(t, oddOf("a="+quote+"b"+quote+after+"\n"), oddOf("?"))
		}
	}
}

// TestEnvQuotesThatFail: only the first line is a record, and every line behind it is looked at on its own.
func TestEnvQuotesThatFail(t *testing.T) {
	for _, end := range []string{"\n", "\r", "\r\n"} {
		for _, quote := range []string{"'", `"`} {
			checkEnv(t, oddOf("a="+quote+"b"+end), oddOf("c"+quote+"d"+end), pairOf("e=f"+end, "e", "f"))
			checkEnv(t, oddOf("a="+quote+end), oddOf(quote+"#"+end), blankOf(end), noteOf(" # b"+end))
			checkEnv(t, oddOf("a="+quote+end), pairOf("b=1"+end, "b", "1"), noteOf("# c"+end), blankOf(" "+end), pairOf("export d=2"+end, "d", "2"), oddOf(quote+"x"+end), pairOf("e="+quote+end+quote+end, "e", end))
			checkEnv(t, oddOf("a="+quote+"b"+end), oddOf("c="+quote+"d"+quote+"e"+end), pairOf("f="+quote+"g"+end+"h"+quote+" # i"+end, "f", "g"+end+"h"), pairOf("j=k", "j", "k"))
			// The next value closes the first one, and has the form by itself.
			checkEnv(t, oddOf("a="+quote+end), pairOf("b="+quote+"c"+quote+end, "b", "c"), oddOf("d="+quote+"e"+end), noteOf("#"+end), pairOf("f="+quote+"g"+end+quote+end, "f", "g"+end))
			// There is none that closes it.
			checkEnv(t, oddOf("a="+quote+end), blankOf(end), pairOf("b=c"+end, "b", "c"), oddOf("d"+end), noteOf("# e"+end), pairOf("f=g", "f", "g"))
			checkEnv(t, pairOf("a="+quote+"b"+quote+end, "a", "b"), oddOf("c="+quote+"d"+end), pairOf("e=f"+end, "e", "f"), oddOf("g"))
			checkEnv(t, pairOf("c="+quote+"d"+end+"e=f"+end+"g="+quote, "c", "d"+end+"e=f"+end+"g="))
			checkEnv(t, oddOf("export a="+quote))
		}
		checkEnv(t, oddOf("a='b\""+end), pairOf("c=\"d\""+end, "c", "d"), oddOf("e=\"f'g"+end), pairOf("g=h"+end, "g", "h"))
		checkEnv(t, oddOf("a='b"+end), pairOf("c=\"d'e\n\""+end, "c", "d'e\n"), oddOf("f=\"g\\\""+end), pairOf("h='i"+end+"'"+end, "h", "i"+end))
	}
}

func envRecs(n int) []impl.Rec {
	var list []impl.Rec
	for i := range n {
		list = append(list, []impl.Rec{noteOf("#\r\n"), oddOf("?\r"), blankOf("\t\n"), pairOf("a='b\n\n c'\n", "a", "b\n\n c"), pairOf("a=b\n", "a", "b")}[i%5])
	}
	return list
}

func TestEnvMaxRecs(t *testing.T) {
	list := envRecs(impl.MaxRecs - 1)
	checkEnv(t, list...)
	for _, last := range []impl.Rec{blankOf(" "), blankOf("\n"), noteOf("# c"), pairOf("a=b\n", "a", "b"), pairOf("a='b\nc\n'\n", "a", "b\nc\n"), pairOf("a=\"b\r\n\" # c", "a", "b\r\n"), oddOf("?"), oddOf("a='b\n")} {
		checkEnv(t, append(slices.Clone(list), last)...)
	}
	for _, rest := range []string{"\n\n", "\n ", "a=b\nc", "a='b\n'\nd\n", "a='b\nc", "a=\"\n\n\"\n\n", "#\r\n\r\n", "a\nb\nc\n", "?\n\xff\x00", "=\n" + strings.Repeat("\n", 500)} {
		checkEnv(t, append(slices.Clone(list), oddOf(rest))...)
	}
	// Records count, not lines.
	for _, rec := range []impl.Rec{pairOf("a='b\n\nc'\n", "a", "b\n\nc"), pairOf("a=\"\r\n\r\n\"\r\n", "a", "\r\n\r\n")} {
		checkEnv(t, slices.Repeat([]impl.Rec{rec}, impl.MaxRecs)...)
		full := slices.Repeat([]impl.Rec{rec}, impl.MaxRecs-1)
		checkEnv(t, append(slices.Clone(full), oddOf(rec.Raw+rec.Raw))...)
		checkEnv(t, append(slices.Clone(full), oddOf(rec.Raw+"\n"))...)
	}
}

func TestEnvMaxText(t *testing.T) {
	long := strings.Repeat("v", impl.MaxText-len("a=\n"))
	checkEnv(t, pairOf("a="+long+"\n", "a", long))
	checkEnv(t, pairOf("a='"+long[2:]+"'\n", "a", long[2:]))
	checkEnv(t, pairOf("a=\""+long[2:]+"\"\n", "a", long[2:]))
	checkEnv(t, pairOf("a='"+strings.Repeat("\n", len(long)-1)+"'", "a", strings.Repeat("\n", len(long)-1)))
	checkEnv(t, pairOf("a='"+strings.Repeat("$", len(long)-1)+"'", "a", strings.Repeat("$$", len(long)-1)))
	checkEnv(t, pairOf("a=\""+strings.Repeat("\\$", len(long)/2-1)+"\"\n", "a", strings.Repeat("$$", len(long)/2-1)))
	checkEnv(t, pairOf("a="+strings.Repeat("\xff", len(long)+1), "a", strings.Repeat("\xff", len(long)+1)))
	checkEnv(t, blankOf(strings.Repeat(" ", impl.MaxText)))
	checkEnv(t, noteOf(strings.Repeat("#", impl.MaxText)))
	checkEnv(t, oddOf(strings.Repeat("\\", impl.MaxText)))
	checkEnv(t, oddOf("a='"+strings.Repeat("\"", impl.MaxText-3)))
	checkEnv(t, oddOf("a=\""+strings.Repeat("\\\"", impl.MaxText/2-2)+"\n"))
	for _, s := range []string{"a=" + long + "v\n", "a=" + long + "\n\n", "a='" + long + "'", strings.Repeat("\n", impl.MaxText+1), strings.Repeat("#", impl.MaxText+1), strings.Repeat("\u00e9", impl.MaxText/2) + "x", strings.Repeat("a='\n", impl.MaxText), strings.Repeat("a=b\n", 100*impl.MaxText)} {
		checkEnvParsed(t, s, nil)
	}
	for _, s := range []string{strings.Repeat("\n", impl.MaxText), strings.Repeat("\r", impl.MaxText), strings.Repeat("a='\n", impl.MaxText/4), strings.Repeat("a=\"\\\"\n", impl.MaxText/6), strings.Repeat("a='\nb=\"\n", impl.MaxText/8), "a=\"" + strings.Repeat("\n\\\"", impl.MaxText/3-1), strings.Repeat("a=\"\r\n\"\n", impl.MaxText/8)} {
		checkEnvLossless(t, s)
	}
}

// TestEnvChangesNothing: neither a call nor what it returned before bears on the next one.
func TestEnvChangesNothing(t *testing.T) {
	for _, s := range []string{"", "a_1", "$a$", "# n\na='$b\nc' # d\n \nexport e=\"\\$f\\q\n\"\n?\nb='", "\xff\x00=\r\r\n", strings.Repeat("\n", impl.MaxRecs+1)} {
		arg := strings.Clone(s)
		name, plain := impl.NameOk(arg), impl.Plain(arg)
		kept, changed := impl.ParseEnv(arg), impl.ParseEnv(arg)
		before := slices.Clone(kept)
		fill(changed[:cap(changed)], impl.Rec{Kind: impl.RkOdd, Raw: "changed"})
		impl.ParseEnv("a='\n")
		impl.NameOk("b")
		impl.Plain("$")
		if arg != s || !slices.Equal(kept, before) || !slices.Equal(impl.ParseEnv(arg), before) || impl.NameOk(arg) != name || impl.Plain(arg) != plain {
			t.Errorf("%q: changing one result changes another: %+v", s, kept)
		}
	}
}
