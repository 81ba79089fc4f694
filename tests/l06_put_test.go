package tests

import (
	"math"
	"slices"
	"strings"
	"testing"

	"loop.example/g00727/impl"
)

func checkEscape(t *testing.T, s string, d impl.Dialect, want string) {
	t.Helper()
	if got := impl.Escape(s, d); got != want {
		t.Errorf("Escape(%q, %+v) = %q, want %q", s, d, got, want)
	}
}

// checkHead expects the header of that section if ok, and none otherwise.
func checkHead(t *testing.T, section string, d impl.Dialect, ok bool) {
	t.Helper()
	want := ""
	if ok {
		want = "[" + section + "]"
	}
	if got, gotOk := impl.IniHead(section, d); got != want || gotOk != ok {
		t.Errorf("IniHead(%q, %+v) = %q, %v, want %q, %v", section, d, got, gotOk, want, ok)
	}
	if ok {
		checkParsed(t, want+"\n", d, []impl.Rec{{Kind: impl.RkHead, Raw: want + "\n", Section: section, Line: 1}})
	}
}

// noPair stands for the line of a pair that cannot be written: every line that can be is longer.
const noPair = ""

func checkPair(t *testing.T, key string, value string, d impl.Dialect, want string) {
	t.Helper()
	if got, ok := impl.IniPair(key, value, d); got != want || ok != (want != noPair) {
		t.Errorf("IniPair(%q, %q, %+v) = %q, %v, want %q", key, value, d, got, ok, want)
	}
	if want != noPair {
		checkParsed(t, want+"\n", d, []impl.Rec{{Kind: impl.RkPair, Raw: want + "\n", Key: key, Value: value, Line: 1}})
	}
}

func checkNoPair(t *testing.T, d impl.Dialect, key string, values ...string) {
	t.Helper()
	for _, value := range values {
		checkPair(t, key, value, d, noPair)
	}
}

// written is a value and what stands for it behind the separator.
type written struct{ value, text string }

func checkWritten(t *testing.T, d impl.Dialect, cases ...written) {
	t.Helper()
	for _, c := range cases {
		checkPair(t, "a", c.value, d, "a "+d.Seps[:1]+c.text)
		checkPair(t, "b c", c.value, d, "b c "+d.Seps[:1]+c.text)
	}
}

func invalidDialects() []impl.Dialect {
	var list []impl.Dialect
	for _, d := range []impl.Dialect{
		{}, {Notes: "#"}, {Seps: "="}, {Notes: "##", Seps: "="}, {Notes: "#;!#", Seps: "="}, {Notes: "x", Seps: "="}, {Notes: "#", Seps: "=="}, {Notes: "#", Seps: "=:="}, {Notes: "#", Seps: "x"}, {Notes: "#", Seps: "= "},
		{Notes: "#", Seps: "=", Join: -1}, {Notes: "#", Seps: "=", Join: 3}, {Notes: "#", Seps: "=", Join: math.MaxInt}, {Notes: "#", Seps: "=", Join: math.MinInt},
	} {
		list = append(list, d)
		d.Inline, d.Quotes, d.Escapes = true, true, true
		list = append(list, d)
	}
	return list
}

func TestEscape(t *testing.T) {
	for _, join := range []int{impl.JoNone, impl.JoMark, impl.JoIndent} {
		for _, flags := range []string{"e", "ie", "qe", "iqe"} {
			d := dialect(flags, join)
			checkEscape(t, "", d, "")
			checkEscape(t, "a b", d, "a b")
			checkEscape(t, " \t a", d, ` \t a`)
			checkEscape(t, " a ", d, " a ")
			checkEscape(t, "\n\t\r", d, `\n\t\r`)
			checkEscape(t, "a\r\nb\n", d, `a\r\nb\n`)
			checkEscape(t, `\"`, d, `\\\"`)
			checkEscape(t, `\\n`, d, `\\\\n`)
			checkEscape(t, "#;!", d, `\#\;!`)
			checkEscape(t, "a#b ; c", d, `a\#b \; c`)
			checkEscape(t, "[s]=b:c", d, "[s]=b:c")
			checkEscape(t, "\x00\xff\xc3(\u00e9\U0001f600\v\f\b\x7f", d, "\x00\xff\xc3(\u00e9\U0001f600\v\f\b\x7f")
		}
	}
}

func TestEscapeEveryByte(t *testing.T) {
	for _, notes := range []string{"#", ";", "!", "#;", "!#", ";!", "#;!"} {
		for i := range 256 {
			b := string([]byte{byte(i)})
			want := b
			switch {
			case b == "\n":
				want = `\n`
			case b == "\t":
				want = `\t`
			case b == "\r":
				want = `\r`
			case b == `\`, b == `"`, strings.Contains(notes, b):
				want = `\` + b
			}
			d := impl.Dialect{Notes: notes, Seps: "=", Escapes: true}
			checkEscape(t, b, d, want)
			checkEscape(t, b+"a"+b+b, d, want+"a"+want+want)
			checkEscape(t, "\\"+b, d, `\\`+want)
			d.Escapes = false
			checkEscape(t, b+"a"+b+b, d, b+"a"+b+b)
		}
	}
}

func TestEscapeWithoutEscapes(t *testing.T) {
	for d := range dialectsWith(impl.JoNone, impl.JoMark, impl.JoIndent) {
		d.Escapes = false
		for _, s := range []string{"", "a", `\`, `"`, "#;!", "\n\t\r", `\n`, " a ", "\x00\xff"} {
			checkEscape(t, s, d, s)
		}
	}
}

func TestEscapeIsUndone(t *testing.T) {
	for _, notes := range []string{"#", "!", "#;!"} {
		d := impl.Dialect{Notes: notes, Seps: "=", Escapes: true}
		for s := range textsOf("n #!\\\"\n\t\r\x00\xff", 4) {
			checkValues(t, "Unescape", impl.Unescape, d, []valueCase{{impl.Escape(s, d), s, true}})
		}
	}
}

// TestEscapeWithAnyDialect: no result is stated for an invalid Dialect, so Escapes and Notes decide there too.
func TestEscapeWithAnyDialect(t *testing.T) {
	checkEscape(t, "#\n", impl.Dialect{}, "#\n")
	checkEscape(t, "#\"\n", impl.Dialect{Escapes: true}, `#\"\n`)
	checkEscape(t, "#x\xff\xfe\x00", impl.Dialect{Notes: "x\xff\x00", Join: -1, Escapes: true}, "#\\x\\\xff\xfe\\\x00")
	checkEscape(t, "#\\", impl.Dialect{Notes: "##\\", Seps: "==", Escapes: true}, `\#\\`)
	for _, d := range invalidDialects() {
		checkEscape(t, "a \x00\xff", d, "a \x00\xff")
	}
}

func TestEscapeOfAnyLength(t *testing.T) {
	const n = 100 * impl.MaxText
	checkEscape(t, strings.Repeat("\n#a", n), dialect("e", impl.JoNone), strings.Repeat(`\n\#a`, n))
	checkEscape(t, strings.Repeat("\n#a", n), dialect("", impl.JoNone), strings.Repeat("\n#a", n))
}

func TestIniHead(t *testing.T) {
	for d := range dialectsWith(impl.JoNone, impl.JoMark, impl.JoIndent) {
		for _, section := range []string{
			"s", "a b", "a \t b", "web.port", "#", "# a", "a # b", "a;b", ";", "!", "a[b", "[", "[[", `"a"`, `"`, "=", "a=b", ":", "-",
			`a\`, `\`, `a\\`, `\a`, `\n`, `\q`, `\ a`, `a\ b`, "\x00", "a\x00b", "\xff", "\xc3(", "\u00e9", "\u00a0a\u00a0", "\v\f", "\u2028", "a\u0085",
		} {
			checkHead(t, section, d, true)
		}
		for _, section := range []string{
			"", " ", "\t", " \t ", " s", "s ", " s ", "\ts", "s\t", "a  ", `\\ `, `a\\ `, "a\\\\\t", ` \ `,
			"]", "a]b", "a]", "]a", "a] # b", "a] # ", "a] ;", "[a]", `a\]b`, `a\]`,
			"\n", "\r", "\r\n", "a\nb", "a\rb", "a\r\nb", "\na", "a\n", "a\r", "\ra", "a\\\nb", "a\\\r\n b", "a]\n[b", "a]\nb=1", "a]\n#", "a]\n", "a\n b", "a\\\n", "\\\na", "\x00\n\xff",
		} {
			checkHead(t, section, d, false)
		}
		// A blank behind a backslash is one of the name only where it is escaped.
		for _, section := range []string{`a\ `, "a\\\t", `\ `, `a\\\ `, `a \ `} {
			checkHead(t, section, d, d.Escapes)
		}
	}
}

func TestIniHeadMaxText(t *testing.T) {
	for d := range dialectsWith(impl.JoNone, impl.JoMark, impl.JoIndent) {
		for _, b := range []string{"s", "\xff", "\\", "#", "["} {
			most := strings.Repeat(b, impl.MaxText-len("[]\n"))
			checkHead(t, most, d, true)
			checkHead(t, most+b, d, false)
			checkHead(t, strings.Repeat(b, 100*impl.MaxText), d, false)
		}
	}
}

func TestIniHeadInvalidDialect(t *testing.T) {
	for _, d := range invalidDialects() {
		for _, section := range []string{"", "s", "a b", "a]", "#", "\x00\xff"} {
			checkHead(t, section, d, false)
		}
	}
}

func TestIniHeadSeparatorsAndNotes(t *testing.T) {
	for _, notes := range []string{"#", ";", "!", "#;!"} {
		for _, seps := range []string{"=", ":", ":="} {
			d := impl.Dialect{Notes: notes, Seps: seps, Inline: true}
			checkHead(t, notes, d, true)
			checkHead(t, "a "+notes+seps, d, true)
			checkHead(t, "a] "+notes, d, false)
		}
	}
}

// TestIniPairUnchanged: the value itself is taken wherever it fits, whatever else would.
func TestIniPairUnchanged(t *testing.T) {
	for d := range dialectsWith(impl.JoNone, impl.JoMark, impl.JoIndent) {
		for _, value := range []string{"1", "a b", "a \t b", "=", ":", "a=b:c", "[s]", "a\"b", `a"`, "'a'", "#", "# a", ";a#b", "a#b", "a# b", "!", "a ! b", "a,b", "\x00", "a\x00", "\xff\xfe", "\xc3(", "\u00e9", "\u00a0a\u00a0", "\v", "\f1", "\u2028"} {
			checkWritten(t, d, written{value, " " + value})
		}
	}
}

func TestIniPairOfEmptyValue(t *testing.T) {
	for d := range dialectsWith(impl.JoNone, impl.JoMark, impl.JoIndent) {
		checkWritten(t, d, written{"", ""})
		checkPair(t, "\x00\xff", "", d, "\x00\xff =")
		for _, key := range []string{"", " ", " a", "a ", "#", "[a", "[a]", "a=", "=", "a\n", "\na", "a\rb"} {
			checkNoPair(t, d, key, "")
		}
		most := strings.Repeat("k", impl.MaxText-len(" =\n"))
		checkPair(t, most, "", d, most+" =")
		checkNoPair(t, d, most+"k", "")
	}
}

func TestIniPairEscaped(t *testing.T) {
	for _, join := range []int{impl.JoNone, impl.JoMark, impl.JoIndent} {
		for _, flags := range []string{"e", "ie", "qe", "iqe"} {
			checkWritten(t, dialect(flags, join),
				written{"a\nb", ` a\nb`}, written{"\n", ` \n`}, written{"\na", ` \na`}, written{"a\n", ` a\n`}, written{"a\rb", ` a\rb`}, written{"\r\n", ` \r\n`}, written{"\r", ` \r`}, written{"a\r", ` a\r`}, written{"a\n b", ` a\n b`}, written{"a\n\nb", ` a\n\nb`},
				written{`\`, ` \\`}, written{`a\`, ` a\\`}, written{`a\b`, ` a\\b`}, written{`a\\`, ` a\\\\`}, written{`\n`, ` \\n`}, written{`\q`, ` \\q`}, written{`\#`, ` \\\#`}, written{`\"`, ` \\\"`}, written{`a\ b`, ` a\\ b`}, written{`\[`, ` \\[`},
				written{"\t", ` \t`}, written{"\ta", ` \ta`}, written{"a\t", ` a\t`}, written{"a \t", ` a \t`}, written{"\t\t", ` \t\t`}, written{"\t a", ` \t a`},
				written{"a\nb # c\\", ` a\nb \# c\\`}, written{"\n\"", ` \n\"`}, written{"\x00\n\xff\xc3", " \x00\\n\xff\xc3"}, written{"\u00e9\n", " \u00e9\\n"})
		}
		for _, flags := range []string{"ie", "iqe"} {
			checkWritten(t, dialect(flags, join), written{"a # b", ` a \# b`}, written{"a\t;b", ` a\t\;b`}, written{"a #", ` a \#`}, written{"a\n #b", ` a\n \#b`}, written{"a # \"b\"", ` a \# \"b\"`})
		}
		for _, flags := range []string{"qe", "iqe"} {
			checkWritten(t, dialect(flags, join), written{`"`, ` \"`}, written{`"a"`, ` \"a\"`}, written{`""`, ` \"\"`}, written{`"a`, ` \"a`}, written{`"a" b`, ` \"a\" b`}, written{`"# a`, ` \"\# a`})
		}
		for _, flags := range []string{"e", "qe"} {
			checkWritten(t, dialect(flags, join), written{"a # b", " a # b"}, written{"a\t;b", " a\t;b"})
		}
	}
}

func TestIniPairInQuotes(t *testing.T) {
	for _, join := range []int{impl.JoNone, impl.JoMark, impl.JoIndent} {
		for _, flags := range []string{"q", "iq", "qe", "iqe"} {
			checkWritten(t, dialect(flags, join), written{" ", ` " "`}, written{"  ", ` "  "`}, written{" a", ` " a"`}, written{"a ", ` "a "`}, written{" a ", ` " a "`}, written{"  a\t ", " \"  a\t \""}, written{"\t ", " \"\t \""}, written{" # a", ` " # a"`}, written{" # ", ` " # "`}, written{"a # ", ` "a # "`}, written{" [s]", ` " [s]"`}, written{" =", ` " ="`}, written{" 'a' ", ` " 'a' "`}, written{" \x00\xff", " \" \x00\xff\""})
		}
		for _, flags := range []string{"q", "iq"} {
			checkWritten(t, dialect(flags, join), written{"\t", " \"\t\""}, written{"\ta", " \"\ta\""}, written{"a\t", " \"a\t\""}, written{` a\`, ` " a\"`}, written{` \n`, ` " \n"`}, written{`a\ `, ` "a\ "`})
			checkNoPair(t, dialect(flags, join), "a", ` "`, `"`, `"a"`, `"a`, `""`, ` a"b`, `"a `, ` "a" `, " a\nb", " \n", "a\r", "\r", "a\rb", "a\r\nb", "\n", "a\n", `" # a`, ` " # a`)
		}
		checkWritten(t, dialect("iq", join), written{"a # b", ` "a # b"`}, written{"a\t;", " \"a\t;\""}, written{`a # \`, ` "a # \"`})
		checkNoPair(t, dialect("iq", join), "a", `a # "`, `a" # b`, "a # b\nc", "a # b\n")
		checkWritten(t, dialect("q", join), written{"a # b", " a # b"})
	}
	// Without JoMark a backslash at the end needs no quotes.
	checkWritten(t, dialect("q", impl.JoMark), written{`a\`, ` "a\"`}, written{`\`, ` "\"`}, written{`a\\\`, ` "a\\\"`}, written{`a\\`, ` a\\`})
	checkWritten(t, dialect("q", impl.JoNone), written{`a\`, ` a\`}, written{`\`, ` \`})
	checkWritten(t, dialect("q", impl.JoIndent), written{`a\`, ` a\`}, written{`\`, ` \`})
}

func TestIniPairEscapedInQuotes(t *testing.T) {
	for _, join := range []int{impl.JoNone, impl.JoMark, impl.JoIndent} {
		for _, flags := range []string{"qe", "iqe"} {
			checkWritten(t, dialect(flags, join), written{` "`, ` " \""`}, written{` "a" `, ` " \"a\" "`}, written{` \`, ` " \\"`}, written{`a\ `, ` "a\\ "`}, written{`\ `, ` "\\ "`}, written{" a\nb", ` " a\nb"`}, written{" \n", ` " \n"`}, written{"\n ", ` "\n "`}, written{"\r ", ` "\r "`}, written{" \r\n ", ` " \r\n "`}, written{"\t\n ", ` "\t\n "`}, written{` \#`, ` " \\\#"`}, written{` # "`, ` " \# \""`}, written{" \\q\x00\xff", " \" \\\\q\x00\xff\""})
		}
		for _, flags := range []string{"e", "ie"} {
			checkNoPair(t, dialect(flags, join), "a", " ", "  ", " a", "a ", "\t ", " \t", ` \`, `a\ `, ` "`, " \n", "\n ", "a\n ", " # a", "a # ")
		}
	}
}

func TestIniPairIndented(t *testing.T) {
	for _, flags := range []string{"", "i", "q", "iq"} {
		checkWritten(t, dialect(flags, impl.JoIndent), written{"a\nb", " a\n b"}, written{"a\nb\nc", " a\n b\n c"}, written{"\na", " \n a"}, written{"a\nb c\td", " a\n b c\td"}, written{"a\nb=c", " a\n b=c"}, written{"a\n[s]", " a\n [s]"}, written{"a\n\"b", " a\n \"b"}, written{"a\n\"b\"", " a\n \"b\""}, written{"a\\\nb\\", " a\\\n b\\"}, written{"a\n!b", " a\n !b"}, written{"a\nb#", " a\n b#"}, written{"# a\nb", " # a\n b"}, written{"\x00\n\xff", " \x00\n \xff"}, written{"\n\v", " \n \v"})
		checkNoPair(t, dialect(flags, impl.JoIndent), "a", "\n", "a\n", "a\n\n", "a\n\nb", "\n\na", "a\n b", "a\n\tb", "a\nb ", "a \nb", " a\nb", "a\nb\t", "a\n ", "a\n \nb", "a\n# b", "a\n;", "a\nb\n#", "a\rb", "a\r b", "a\r\nb", "a\r\n b", "a\r", "a\nb\r", "a\n\rb", "a\n\r", "a\nb\rc")
	}
	checkWritten(t, dialect("", impl.JoIndent), written{"a # b\nc ; d", " a # b\n c ; d"}, written{"\"a\"\nb", " \"a\"\n b"}, written{"\"a\nb\"", " \"a\n b\""})
	checkWritten(t, dialect("q", impl.JoIndent), written{"a # b\nc ; d", " a # b\n c ; d"})
	checkNoPair(t, dialect("i", impl.JoIndent), "a", "a # b\nc", "a\nb # c", "a\nb\t;")
	checkNoPair(t, dialect("iq", impl.JoIndent), "a", "a # b\nc", "a\nb # c", "\"a\nb\"", "\"a\"\nb")
	checkNoPair(t, dialect("q", impl.JoIndent), "a", "\"a\"\nb", "\"a\nb\"")
	for d := range dialectsWith(impl.JoNone, impl.JoMark) {
		if !d.Escapes {
			checkNoPair(t, d, "a", "a\nb", "\n", "a\n", "\na", "a\n b", "a\\\nb", "a\\\n", "a\rb", "a\r\nb", "\r", "a\r")
		}
	}
}

func TestIniPairThatNoFormFits(t *testing.T) {
	for _, join := range []int{impl.JoNone, impl.JoMark, impl.JoIndent} {
		checkNoPair(t, dialect("", join), "a", " ", "\t", " a", "a ", "\ta", "a\t", " a ", "\r", "a\r\n", "\n", " \x00", "\xff ")
		checkNoPair(t, dialect("i", join), "a", "a # b", "a\t;b", " # a", "a #", " a", "a ")
		checkWritten(t, dialect("", join), written{"a # b", " a # b"}, written{`"a"`, ` "a"`}, written{`"`, ` "`}, written{`a\ b`, ` a\ b`})
	}
	checkNoPair(t, dialect("", impl.JoMark), "a", `\`, `a\`, `a\\\`)
	checkNoPair(t, dialect("i", impl.JoMark), "a", `\`, `a\`, `a\\\`)
	checkWritten(t, dialect("", impl.JoNone), written{`a\`, ` a\`})
	checkWritten(t, dialect("", impl.JoIndent), written{`a\`, ` a\`})
	checkWritten(t, dialect("i", impl.JoMark), written{`a\\`, ` a\\`})
}

func TestIniPairKeys(t *testing.T) {
	for d := range dialectsWith(impl.JoNone, impl.JoMark, impl.JoIndent) {
		for _, key := range []string{"a", "a b", "a \t b", "a#b", "a # b", "a ;", "!", "!a", "]", "a[b]", `"a"`, `"`, "'", `a\\`, `a\b`, `\a`, `\#`, `\[a]`, `\n`, "a.b-c", "\x00", "a\x00b", "\xff", "\xc3(", "\u00e9", "\u00a0", "\v", "1"} {
			checkPair(t, key, "v", d, key+" = v")
			checkPair(t, key, "", d, key+" =")
		}
		for _, key := range []string{"", " ", "\t", " a", "a ", "\ta", "a\t", " a ", "=", "a=", "=a", "a=b", ":", "a:b", "[", "[a", "[a]", "[a] #", "[=", "#", "#a", ";", ";a", "# a", "\n", "a\n", "\na", "a\nb", "a\n b", "a\\\nb", "a\rb", "\r", "a\r\nb", "#\na", "[s]\na", "b=1\na", `a\\ `, "a\\=", `\=a`, "\x00\n", "\xff "} {
			checkNoPair(t, d, key, "v", "", " v", "v\nw", "v # w", `v\`)
		}
		// Where blanks may be escaped, the one ahead of the separator would be a part of these keys.
		for _, key := range []string{`a\`, `\`, `a\\\`, `a \`} {
			want := key + " = v"
			if d.Escapes {
				want = noPair
			}
			checkPair(t, key, "v", d, want)
		}
		for _, key := range []string{`a\ `, "a\\\t", `\ `} {
			want := key + " = v"
			if !d.Escapes {
				want = noPair
			}
			checkPair(t, key, "v", d, want)
		}
	}
}

func TestIniPairSepsAndNotes(t *testing.T) {
	for _, c := range []struct{ seps, key, want string }{
		{"=", "a", "a = v"}, {":", "a", "a : v"}, {"=:", "a", "a = v"}, {":=", "a", "a : v"},
		{"=", "a:b", "a:b = v"}, {":", "a=b", "a=b : v"}, {"=", ":", ": = v"}, {":", "=", "= : v"},
		{"=", "a=b", ""}, {":", "a:b", ""}, {"=:", "a:b", ""}, {":=", "a=b", ""}, {"=:", ":", ""}, {":=", "=", ""},
	} {
		checkPair(t, c.key, "v", impl.Dialect{Notes: "#", Seps: c.seps, Inline: true, Quotes: true, Escapes: true}, c.want)
		checkPair(t, c.key, "v", impl.Dialect{Notes: "!", Seps: c.seps, Join: impl.JoIndent}, c.want)
	}
	for _, note := range []string{"#", ";", "!"} {
		for _, other := range []string{"#", ";", "!"} {
			value := "v " + other + " w"
			key, escaped, quoted := other+"k = v", " "+value, " "+value
			if other == note {
				key, escaped, quoted = noPair, ` v \`+note+" w", ` "`+value+`"`
			}
			checkPair(t, other+"k", "v", impl.Dialect{Notes: note, Seps: "="}, key)
			checkWritten(t, impl.Dialect{Notes: note, Seps: ":", Inline: true, Escapes: true}, written{value, escaped})
			checkWritten(t, impl.Dialect{Notes: note, Seps: ":", Inline: true, Quotes: true}, written{value, quoted})
		}
	}
}

func TestIniPairMaxText(t *testing.T) {
	for d := range dialectsWith(impl.JoNone, impl.JoMark, impl.JoIndent) {
		for _, b := range []string{"v", "\xff", "\x00"} {
			most := strings.Repeat(b, impl.MaxText-len("a = \n"))
			checkPair(t, "a", most, d, "a = "+most)
			checkNoPair(t, d, "a", most+b, strings.Repeat(b, 100*impl.MaxText))
			most = strings.Repeat(b, impl.MaxText-len(" = v\n"))
			checkPair(t, most, "v", d, most+" = v")
			checkNoPair(t, d, most+b, "v")
			checkNoPair(t, d, strings.Repeat(b, 100*impl.MaxText), "v", "")
		}
	}
}

// TestIniPairMaxTextOfForms: a form that becomes too long leaves the value to
// the next one. The counts fill MaxText to the last byte.
func TestIniPairMaxTextOfForms(t *testing.T) {
	notes := func(n int) string { return "v" + strings.Repeat(" #", n) }
	d := dialect("iqe", impl.JoMark)
	checkPair(t, "a", notes(1998), d, "a = v"+strings.Repeat(` \#`, 1998))
	checkPair(t, "a", notes(1999), d, `a = "`+notes(1999)+`"`)
	checkPair(t, "a", notes(2996), d, `a = "`+notes(2996)+`"`)
	checkNoPair(t, d, "a", notes(2997))
	checkNoPair(t, dialect("ie", impl.JoMark), "a", notes(1999))
	lines := strings.Repeat("\n", 2996)
	checkPair(t, "a", " "+lines, d, `a = " `+strings.Repeat(`\n`, 2996)+`"`)
	checkNoPair(t, d, "a", " \n"+lines)
	lines = strings.Repeat("v\n", 1998) + "w"
	checkPair(t, "a", lines, dialect("", impl.JoIndent), "a = "+strings.ReplaceAll(lines, "\n", "\n "))
	checkNoPair(t, dialect("", impl.JoIndent), "a", "v\n"+lines)
}

func TestIniPairInvalidDialect(t *testing.T) {
	for _, d := range invalidDialects() {
		checkNoPair(t, d, "a", "", "1", " ", "a\nb", "\x00\xff", strings.Repeat("v", 2*impl.MaxText))
		checkNoPair(t, d, "", "", "1")
		checkNoPair(t, d, "a=", "", "1")
	}
}

// TestPutChangesNothing: neither a call nor what it returned before bears on the next one.
func TestPutChangesNothing(t *testing.T) {
	for d := range dialectsWith(impl.JoNone, impl.JoMark, impl.JoIndent) {
		key, value, before := strings.Clone("b c"), strings.Clone(" v\n\"w\\#\t"), d
		var texts []string
		for range 2 {
			pair, _ := impl.IniPair(key, value, d)
			head, _ := impl.IniHead(key, d)
			texts = append(texts, pair, head, impl.Escape(value, d))
			impl.IniPair(value, key, d)
			impl.IniHead(value, d)
		}
		if key != "b c" || value != " v\n\"w\\#\t" || d != before || !slices.Equal(texts[:3], texts[3:]) {
			t.Errorf("with %+v: %q, %q, %q", d, key, value, texts)
		}
	}
}
