package tests

import (
	"slices"
	"strings"
	"testing"

	"loop.example/g00727/impl"
)

// checkEnvEscape expects what is written, and that it denotes s within double quotes.
func checkEnvEscape(t *testing.T, s string, want string) {
	t.Helper()
	if got := impl.EnvEscape(s); got != want {
		t.Errorf("EnvEscape(%q) = %q, want %q", s, got, want)
	}
	if text := "a=\"" + want + "\"\n"; len(text) <= impl.MaxText {
		checkEnvParsed(t, text, placed([]impl.Rec{pairOf(text, "a", plainOf(s))}))
	}
}

func plainOf(s string) string { return strings.Join(strings.Split(s, "$"), "$$") }

// checkEnvPair expects that line, or none for noPair.
func checkEnvPair(t *testing.T, key string, value string, want string) {
	t.Helper()
	if got, ok := impl.EnvPair(key, value); got != want || ok != (want != noPair) {
		t.Errorf("EnvPair(%q, %q) = %q, %v, want %q", key, value, got, ok, want)
	}
	if want != noPair {
		checkEnvParsed(t, want+"\n", placed([]impl.Rec{pairOf(want+"\n", key, plainOf(value))}))
	}
}

func checkNoEnvPair(t *testing.T, key string, values ...string) {
	t.Helper()
	for _, value := range values {
		checkEnvPair(t, key, value, noPair)
	}
}

// checkEnvWritten expects what stands behind the separator, whatever the key is.
func checkEnvWritten(t *testing.T, cases ...written) {
	t.Helper()
	for _, c := range cases {
		for _, key := range []string{"A", "_b9", "export", strings.Repeat("N", 40)} {
			checkEnvPair(t, key, c.value, key+"="+c.text)
		}
	}
}

func checkEnvUnchanged(t *testing.T, values ...string) {
	t.Helper()
	for _, value := range values {
		checkEnvWritten(t, written{value, value})
	}
}

func checkEnvInApostrophes(t *testing.T, values ...string) {
	t.Helper()
	for _, value := range values {
		checkEnvWritten(t, written{value, "'" + value + "'"})
	}
}

func TestEnvEscape(t *testing.T) {
	for s, want := range map[string]string{
		"": "", "a": "a", "two words": "two words", " \va\f ": " \va\f ", "#=[]:;!%&'`~{}()": "#=[]:;!%&'`~{}()", "'": "'", "it's": "it's", "''": "''",
		`\`: `\\`, `"`: `\"`, "$": `\$`, "\n": `\n`, "\t": `\t`, "\r": `\r`,
		"\\\"$\n\t\r": `\\\"\$\n\t\r`, "\r\t\n$\"\\": `\r\t\n\$\"\\`, "\r\n": `\r\n`, "\n\n\n": `\n\n\n`, "\t\t": `\t\t`, "\r\r": `\r\r`, `""`: `\"\"`, "$$": `\$\$`, `\\`: `\\\\`,
		`a\`: `a\\`, `a\\`: `a\\\\`, `a\\\`: `a\\\\\\`, `\a`: `\\a`, "$a": `\$a`, "a$": `a\$`, "$a$": `\$a\$`, "${a}": `\${a}`, "a${b:-c}d": `a\${b:-c}d`, `"a"`: `\"a\"`, `a"b`: `a\"b`,
		`\n`: `\\n`, `\t`: `\\t`, `\r`: `\\r`, `\$`: `\\\$`, `\"`: `\\\"`, `\\n`: `\\\\n`, "\\\n": `\\\n`, `\q`: `\\q`, `\u0041`: `\\u0041`, `\x41`: `\\x41`,
		"a\nb": `a\nb`, "a\r\nb\n": `a\r\nb\n`, "\ta\t": `\ta\t`,
		"\v\f\x00'\x7f\b\a\x1b": "\v\f\x00'\x7f\b\a\x1b", "\x80\xff\xc3(\xc3": "\x80\xff\xc3(\xc3", "\xff\n\xfe": "\xff\\n\xfe", "\x00$\x00": "\x00\\$\x00", "\u00e9\"\U0001f600": "\u00e9\\\"\U0001f600", "\u0085\u2028\uff04\ufffd": "\u0085\u2028\uff04\ufffd", "\xef\xbf": "\xef\xbf",
	} {
		checkEnvEscape(t, s, want)
	}
}

func TestEnvEscapeEveryByte(t *testing.T) {
	letters := map[string]string{"\n": `\n`, "\t": `\t`, "\r": `\r`, `\`: `\\`, `"`: `\"`, "$": `\$`}
	for i := range 256 {
		b := string([]byte{byte(i)})
		want, replaced := letters[b]
		if !replaced {
			want = b
		}
		checkEnvEscape(t, b, want)
		checkEnvEscape(t, b+b, want+want)
		checkEnvEscape(t, "a"+b+"c"+b, "a"+want+"c"+want)
		for other, otherWant := range letters {
			checkEnvEscape(t, b+other, want+otherWant)
			checkEnvEscape(t, other+b+other, otherWant+want+otherWant)
		}
	}
}

func TestEnvEscapeOfAnyLength(t *testing.T) {
	const n = 10 * impl.MaxText
	checkEnvEscape(t, strings.Repeat("\\\"$\n\t\ra", n), strings.Repeat(`\\\"\$\n\t\ra`, n))
	checkEnvEscape(t, strings.Repeat("\xff", n), strings.Repeat("\xff", n))
}

func TestEnvPairUnchanged(t *testing.T) {
	checkEnvUnchanged(t, "1", "a", "two words", "a \t b", "a  b", "a\tb", "/usr/bin:/bin", "a,b;c", "-1", "%", "!", ";", "[s]", "{x}", "`a`", "(", "&", "|", "*", "~")
	checkEnvUnchanged(t, "=", "==", "=a", "= a", "a=b", "B=2", "export B=2", "export", "A=1 B=2")
	checkEnvUnchanged(t, "a#b", "a#", "a##", "a#b#c", "a# b", "a=#b", "\\#", "\v#", "a\x00#b", "\u00a0#", "a\xff#")
	checkEnvUnchanged(t, `\`, `\\`, `\\\`, `a\`, `a\\`, `\a`, `a\b`, `\n`, `\t`, `\q`, `\u0041`, `a\ b`, `\ b`)
	checkEnvUnchanged(t, "\x00", "a\x00", "\x00a", "\xff", "\xff\xfe", "\xc3(", "\xc3 \xa9", "\u00e9", "\U0001f600", "\u00a0a\u00a0", "\v", "\f", "\va\f", "\x7f", "\b", "\x1f", "\u0085", "\u2028", "a\v", "\ufeff")
}

func TestEnvPairOfEmptyValue(t *testing.T) {
	checkEnvUnchanged(t, "")
	checkNoEnvPair(t, "", "")
	checkNoEnvPair(t, "1", "")
}

func TestEnvPairInApostrophes(t *testing.T) {
	checkEnvInApostrophes(t, " ", "\t", "  ", " \t ", " a", "a ", " a ", "\ta", "a\t", " a b\t", " =", "= ", " \x00", "\xff ")
	checkEnvInApostrophes(t, "#", "#a", "##", "# a", "a #", "a #b", "a # b", "a\t#b", "a \t# b", "a b #", "a #b #c", "a#b #c", "= #", `\ #`, `a\ # b`, " #", "\t#", "\xff #\x00")
	checkEnvInApostrophes(t, "$", "$$", "$$$", "a$b", "$a", "a$", "$a$", "a$$b", "${x}", "${x:-y}", "a ${x} b", "${", "$ a", "$1", `\$`, `$\`, `\\$a`, "$#", "=$a", "\xff$\x00", "\u00e9$")
	checkEnvInApostrophes(t, `"`, `""`, `"a"`, `a"`, `"a`, `a"b`, `a "b" c`, `"a" b`, `"a" # b`, `="a"`, `\"`, `"\`, `"\"`, `a\"`, `\\"`, `"a\\"`, `"$a"`, "\"\n\"", "\"\xff", "\x00\"")
	for _, end := range []string{"\n", "\r", "\r\n"} {
		checkEnvInApostrophes(t, end, end+end, "a"+end, end+"a", "a"+end+"b", "a"+end+end+"b", end+"a"+end, "a"+end+" b", "a "+end+"b", "a\\"+end+"b", "a\\"+end, " "+end, end+"\t", "\xff"+end+"\x00", "a"+end+"\"", "a"+end+"$b", "=a"+end)
		// What would be a record of its own on a later line is one with the value.
		checkEnvInApostrophes(t, "1"+end+"B=2", "1"+end+"A=1", "1"+end+"export B=2"+end, end+"B=2"+end+"C=3", "1"+end+"# b", "1"+end+"?", "1"+end+" "+end, "1"+end+"B=\"2\"", "#"+end+"B=2", "1"+end+"B=\"", "1"+end+"\" # b"+end)
	}
	checkEnvInApostrophes(t, "\n\r", "a\r\r\nb\n\nc\r", "\r\n\r", strings.Repeat("a\n", 2*impl.MaxRecs), strings.Repeat("\r", impl.MaxRecs))
}

func TestEnvPairInDoubleQuotes(t *testing.T) {
	checkEnvWritten(t,
		written{"'", `"'"`}, written{"''", `"''"`}, written{"'''", `"'''"`}, written{"it's", `"it's"`}, written{"'a'", `"'a'"`}, written{"'a", `"'a"`}, written{"a'", `"a'"`}, written{"'a' b", `"'a' b"`}, written{"a' #", `"a' #"`}, written{"a' # b'", `"a' # b'"`}, written{"='a'", `"='a'"`}, written{" ' ", `" ' "`}, written{"#'", `"#'"`}, written{"' #", `"' #"`},
		written{"'\"", `"'\""`}, written{"\"'", `"\"'"`}, written{`"'"`, `"\"'\""`}, written{`'"'`, `"'\"'"`}, written{`it's "x"`, `"it's \"x\""`}, written{`"it's"`, `"\"it's\""`}, written{`'a' "b"`, `"'a' \"b\""`},
		written{"'$", `"'\$"`}, written{"it's $5", `"it's \$5"`}, written{"'$$'", `"'\$\$'"`}, written{"'${x}'", `"'\${x}'"`}, written{"$'", `"\$'"`}, written{"'\"$", `"'\"\$"`},
		written{`'\`, `"'\\"`}, written{`'\\`, `"'\\\\"`}, written{`\'`, `"\\'"`}, written{`'\a`, `"'\\a"`}, written{`'\"`, `"'\\\""`}, written{`'\\"`, `"'\\\\\""`}, written{`'\n`, `"'\\n"`}, written{`'\$`, `"'\\\$"`}, written{`'\q`, `"'\\q"`}, written{`\''\`, `"\\''\\"`},
		written{"'\n", `"'\n"`}, written{"'\r", `"'\r"`}, written{"'\r\n", `"'\r\n"`}, written{"\n'", `"\n'"`}, written{"'\nb", `"'\nb"`}, written{"'a\nb'", `"'a\nb'"`}, written{"'\t'", `"'\t'"`}, written{"\t'", `"\t'"`}, written{"'\\\n", `"'\\\n"`}, written{"'\n\r\r\n\n", `"'\n\r\r\n\n"`},
		written{"'1'\nB='2'", `"'1'\nB='2'"`}, written{"1'\nexport B=\"2", `"1'\nexport B=\"2"`}, written{"it's\nB=2\n", `"it's\nB=2\n"`}, written{"1' # a\nB='2", `"1' # a\nB='2"`},
		written{"'\x00", "\"'\x00\""}, written{"'\xff\xfe", "\"'\xff\xfe\""}, written{"\xc3'\xa9", "\"\xc3'\xa9\""}, written{"\u00e9'\U0001f600", "\"\u00e9'\U0001f600\""}, written{"'\v\f\x7f", "\"'\v\f\x7f\""},
	)
	lines := strings.Repeat("'\n", 2*impl.MaxRecs)
	checkEnvWritten(t, written{lines, `"` + strings.ReplaceAll(lines, "\n", `\n`) + `"`})
}

func TestEnvPairKeys(t *testing.T) {
	long := strings.Repeat("k", 40)
	values := []string{"", "1", "two words", " 1", "a$b", "'", "'\"$\n", "=", "# '", "\x00\xff", "1\nB=2"}
	texts := []string{"", "1", "two words", "' 1'", "'a$b'", `"'"`, `"'\"\$\n"`, "=", `"# '"`, "\x00\xff", "'1\nB=2'"}
	for _, key := range []string{"a", "Z", "_", "A1", "a_b", "export", "exporta", "export1", "EXPORT", long, "_" + long[:39], long[:39]} {
		for i, value := range values {
			checkEnvPair(t, key, value, key+"="+texts[i])
		}
	}
	for _, key := range []string{
		"", " ", "\t", "1", "1a", "9_", " a", "a ", "\ta", "a\t", " a ", "a b", "a-b", "a.b", "a=", "=a", "=", "a=b", "a=b=c", "a='", "a=\"", "#", "#a", "a#", "a #", "$a", "${a}", "'a'", `"a"`, `\a`, `a\`,
		"export a", "export\ta", "export ", " export", "export  a", "export export", "export =", "export a=1\nb", long + "k", "export " + long, strings.Repeat("k", 10*impl.MaxText),
		"\n", "a\n", "\na", "a\nb", "b=1\na", "a\r", "\ra", "a\r\n", "#\na", "\n\na", "\x00", "a\x00", "\xff", "a\xff", "\u00e9", "a\u00e9", "\uff21", "a\v", "[a]",
	} {
		checkNoEnvPair(t, key, values...)
	}
}

// TestEnvPairMaxText: forms that are not read as the value are passed over
// whatever their length is, but one that is read has to fit with its newline.
func TestEnvPairMaxText(t *testing.T) {
	room := impl.MaxText - len("a=\n")
	for _, b := range []string{"v", "=", "\\", "\xff", "\x00", "\u00e9"} {
		most := strings.Repeat(b, room/len(b)) + strings.Repeat("v", room%len(b))
		checkEnvPair(t, "a", most, "a="+most)
		checkEnvPair(t, "a", most[1:], "a="+most[1:])
		checkNoEnvPair(t, "a", most+"v", most+b, most+most, " "+most, most+"'", strings.Repeat(b, 100*impl.MaxText))
	}
	for _, b := range []string{" ", "$", "\"", "#", "\n", "\r", "\r\n", "\"\\", "\n\xff"} {
		most := b + strings.Repeat(b, (room-2)/len(b)-1) + strings.Repeat("v", (room-2)%len(b))
		checkEnvPair(t, "a", most, "a='"+most+"'")
		checkNoEnvPair(t, "a", most+"v", " "+most, most+b, "'"+most, strings.Repeat(b, 100*impl.MaxText))
	}
	most := strings.Repeat("'", room-2)
	checkEnvPair(t, "a", most, `a="`+most+`"`)
	checkNoEnvPair(t, "a", most+"'", most+"v", strings.Repeat("'", 100*impl.MaxText))
	for _, b := range []string{`\`, `"`, "$", "\n", "\t", "\r"} {
		most = "''" + strings.Repeat(b, (room-2)/2-1)
		checkEnvPair(t, "a", most+"v", `a="`+impl.EnvEscape(most)+`v"`)
		checkNoEnvPair(t, "a", most+b, most+"vv", "'"+strings.Repeat(b, room))
	}
	// The key takes room too.
	long := strings.Repeat("k", 40)
	most = strings.Repeat("v", impl.MaxText-len(long+"=\n"))
	checkEnvPair(t, long, most, long+"="+most)
	checkEnvPair(t, long, " "+most[3:], long+"=' "+most[3:]+"'")
	checkEnvPair(t, long, "'"+most[3:], long+`="'`+most[3:]+`"`)
	checkNoEnvPair(t, long, most+"v", " "+most[2:], "'"+most[2:], "'\n"+most[4:])
}

// TestEnvPutChangesNothing: neither a call nor what it returned before bears on the next one.
func TestEnvPutChangesNothing(t *testing.T) {
	for _, value := range []string{"", "1", " v", "'\"$\\\n\t\r", "it's\nB=2", "\x00\xff", "a$b", strings.Repeat("'", 2*impl.MaxText)} {
		key, arg := strings.Clone("B_1"), strings.Clone(value)
		var texts []string
		for range 2 {
			line, _ := impl.EnvPair(key, arg)
			swapped, _ := impl.EnvPair(arg, key)
			texts = append(texts, line, swapped, impl.EnvEscape(arg))
			impl.EnvPair("C", "' \n")
			impl.EnvEscape("$")
		}
		if key != "B_1" || arg != value || !slices.Equal(texts[:3], texts[3:]) {
			t.Errorf("with %q: %q, %q, %q", value, key, arg, texts)
		}
	}
}
