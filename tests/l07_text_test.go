package tests

import (
	"fmt"
	"slices"
	"strings"
	"testing"

	"loop.example/g00727/impl"
)

func checkPropText(t *testing.T, s string, want string, wantOk bool) {
	t.Helper()
	if got, ok := impl.PropText(s); got != want || ok != wantOk {
		t.Errorf("PropText(%q) = %q, %v, want %q, %v", s, got, ok, want, wantOk)
	}
}

func checkPropKey(t *testing.T, s string, want string) {
	t.Helper()
	if got := impl.PropKey(s); got != want {
		t.Errorf("PropKey(%q) = %q, want %q", s, got, want)
	}
}

func checkPropValue(t *testing.T, s string, want string) {
	t.Helper()
	if got := impl.PropValue(s); got != want {
		t.Errorf("PropValue(%q) = %q, want %q", s, got, want)
	}
}

// checkPropsRecovered checks what holds for all strings whose pair is no longer
// than MaxText allows.
func checkPropsRecovered(t *testing.T, key string, value string) {
	t.Helper()
	keyText, valueText := impl.PropKey(key), impl.PropValue(value)
	checkPropText(t, keyText, key, true)
	checkPropText(t, valueText, value, true)
	pair := impl.PropPair(key, value)
	if pair != keyText+"="+valueText {
		t.Errorf("PropPair(%q, %q) = %q, want %q", key, value, pair, keyText+"="+valueText)
	}
	for _, end := range []string{"\n", ""} {
		checkPropsParsed(t, pair+end, []impl.Rec{{Kind: impl.RkPair, Raw: pair + end, Key: key, Value: value, Line: 1}})
	}
}

func TestPropText(t *testing.T) {
	for _, c := range [][2]string{
		{"", ""}, {"a", "a"}, {"plain text \t\f\r\n\v", "plain text \t\f\r\n\v"}, {"u0041", "u0041"}, {"/n", "/n"}, {"=:#! ", "=:#! "}, {"\x00\x7f", "\x00\x7f"},
		{`\n`, "\n"}, {`\t`, "\t"}, {`\r`, "\r"}, {`\f`, "\f"}, {`a\nb\tc\rd\fe`, "a\nb\tc\rd\fe"}, {`\n\n`, "\n\n"}, {`\nn`, "\nn"}, {`\ff`, "\ff"},
		{`\\`, `\`}, {`\\\\`, `\\`}, {`\\n`, `\n`}, {`\\\n`, "\\\n"}, {`\\\\n`, `\\n`}, {`\\u12`, `\u12`}, {`\\\\u`, `\\u`}, {`\\ud83d`, `\ud83d`},
		{`\a\b\v\e\x`, "abvex"}, {`\0\7\x41`, "07x41"}, {`\N\T\R\F`, "NTRF"}, {`\U0041`, "U0041"}, {`\U`, "U"}, {`\"\'`, `"'`}, {`\ \=\:\#\!`, " =:#!"}, {"\\\t\\\f\\\n\\\r\\\r\n", "\t\f\n\r\r\n"},
		{"\\\x00", "\x00"}, {"\\\x7f", "\x7f"}, {"\\\x80", "\x80"}, {"\\\xff\\\xff", "\xff\xff"}, {"\\\u00e9", "\u00e9"}, {"\\\u20ac\\\U0001f600", "\u20ac\U0001f600"}, {"\xc3\\\xa9", "\u00e9"}, {"\xc3\\n", "\xc3\n"},
		{`\`, ""}, {`a\`, "a"}, {`\\\`, `\`}, {`\n\`, "\n"}, {`\\n\`, `\n`}, {`\u0041\`, "A"}, {`\ud83d\ude00\`, "\U0001f600"}, {"\xff\\", "\xff"},
	} {
		checkPropText(t, c[0], c[1], true)
	}
}

func TestPropTextUnits(t *testing.T) {
	for _, c := range [][2]string{
		{`\u0041`, "A"}, {`a\u0042c`, "aBc"}, {`\u00411`, "A1"}, {`\u0041\u0042`, "AB"}, {`\u00e9\u00E9\u00eA`, "\u00e9\u00e9\u00ea"}, {`\uABCD\uabcd\uAbCd`, "\uabcd\uabcd\uabcd"},
		{`\u0000`, "\x00"}, {`\u000a`, "\n"}, {`\u000A`, "\n"}, {`\u000b`, "\v"}, {`\u007f\u0080`, "\x7f\u0080"}, {`\u07ff\u0800`, "\u07ff\u0800"}, {`\ud7ff`, "\ud7ff"}, {`\uD7FF`, "\ud7ff"}, {`\ue000`, "\ue000"}, {`\ufffd\uffff`, "\ufffd\uffff"},
		{`\u005c`, `\`}, {`\u005cn`, `\n`}, {`\u005cu0041`, `\u0041`}, {`\u005c\u005C`, `\\`}, {`\u005c\`, `\`}, {`\u005c\n`, "\\\n"}, {`\u0020`, " "}, {`\\\u0041`, `\A`}, {`\n\u0041\t`, "\nA\t"}, {`\q\u0041`, "qA"},
		{`\ud800\udc00`, "\U00010000"}, {`\ud800\udfff`, "\U000103ff"}, {`\udbff\udc00`, "\U0010fc00"}, {`\udbff\udfff`, "\U0010ffff"}, {`\uD83D\uDE00`, "\U0001f600"}, {`\ud83D\uDe00x`, "\U0001f600x"},
		{`\ud83d\ude00\ud83d\ude01`, "\U0001f600\U0001f601"}, {`\u0041\ud83d\ude00\u0042`, "A\U0001f600B"}, {`\n\ud83d\ude00\n`, "\n\U0001f600\n"}, {`\\\ud83d\ude00\\`, "\\\U0001f600\\"},
		{"\xff\\u0041\xc3", "\xffA\xc3"}, {"\xed\xa0\xbd\\u0041", "\xed\xa0\xbdA"}, {"\\u00e9\xe9\x00", "\u00e9\xe9\x00"}, {"\U0001f600\\ud83d\\ude00", "\U0001f600\U0001f600"},
	} {
		checkPropText(t, c[0], c[1], true)
	}
}

func TestNoPropText(t *testing.T) {
	for _, s := range []string{
		`\u`, `\u1`, `\u12`, `\u123`, `\u\`, `\u\u0041`, `\u004\u0041`, `\u004\`, `\u004\\`, `\u{41}`, `\uu0041`, `\u\n`, `\uU0041`,
		`\u12g4`, `\ug234`, `\u123g`, `\u 041`, `\u+041`, `\u-041`, `\u004 `, `\u00_1`, `\u0x41`, "\\u004\n", "\\u004\x00", "\\u004\xff", "\\u004\u00e9", "\\u00\u00e9", "\\u\U0001f600", "\\u004\uff11",
		`\ud83d`, `\ud800`, `\udbff`, `\uD800`, `\ud83d\`, `\ud83d\u`, `\ud83d\ude0`, `\ud83d\ude0g`, `\ud83dude00`, `\ud83d\Ude00`,
		`\ud83dx`, `\ud83d `, `\ud83dx\ude00`, "\\ud83d\n", "\\ud83d\xff", "\\ud83d\u00e9", "\\ud83d\U0001f600", `\ud83d\\`, `\ud83d\\ude00`, `\ud83d\\\ude00`, `\ud83d\n`, `\ud83d\ \ude00`, `\ud83d\q`,
		`\ude00`, `\udc00`, `\udfff`, `\uDFFF`, `\ude00\ud83d`, `\ude00\ude00`, `\ud83d\ude00\ude00`,
		`\ud83d\ud83d`, `\ud800\ud800`, `\ud83d\ud83d\ude00`, `\ud83d\ude00\ud83d`, `\ud83d\udbff`,
		`\ud83d\u0041`, `\ud83d\ud7ff`, `\ud83d\ue000`, `\ud83d\uffff`, `\ud83d\u0041\ude00`, `\ud83d\u005c`,
	} {
		checkPropText(t, s, "", false)
		for _, before := range []string{"a", `\n`, `\\`, `\u0041b`, `\ud83d\ude00`, "\xff", "\\\xc3"} {
			checkPropText(t, before+s, "", false)
		}
		checkPropText(t, s+` \\\n`, "", false)
	}
}

func TestPropTextEveryByte(t *testing.T) {
	letters := map[string]string{"n": "\n", "t": "\t", "r": "\r", "f": "\f"}
	for i := range 256 {
		b := string([]byte{byte(i)})
		want, known := letters[b]
		if !known {
			want = b
		}
		if b != "u" {
			checkPropText(t, `\`+b, want, true)
			checkPropText(t, `a\`+b+"c", "a"+want+"c", true)
			checkPropText(t, `\\\`+b+b, `\`+want+strings.TrimSuffix(b, `\`), true)
		}
		isDigit := strings.Contains("0123456789abcdefABCDEF", b)
		for at := range 4 {
			if _, ok := impl.PropText(`\u` + "0000"[:at] + b + "0000"[at+1:]); ok != isDigit {
				t.Errorf("byte %d as digit %d of an escape: %v", i, at, ok)
			}
		}
	}
}

func TestPropTextAllUnits(t *testing.T) {
	for unit := range 65536 {
		want := ""
		if isSign(unit) {
			want = signBytes(unit)
		}
		checkPropText(t, fmt.Sprintf(`\u%04x`, unit), want, isSign(unit))
		checkPropText(t, fmt.Sprintf(`\u%04X`, unit), want, isSign(unit))
	}
}

func TestPropKeyAndValue(t *testing.T) {
	for _, c := range [][3]string{
		{"", "", ""}, {"a", "a", "a"}, {"a.b-c_d", "a.b-c_d", "a.b-c_d"}, {"[s]", "[s]", "[s]"}, {"\"'$%&()*+,-./;<>?@^_`{|}~", "\"'$%&()*+,-./;<>?@^_`{|}~", "\"'$%&()*+,-./;<>?@^_`{|}~"},
		{"=", `\=`, `\=`}, {":", `\:`, `\:`}, {"#", `\#`, `\#`}, {"!", `\!`, `\!`}, {`\`, `\\`, `\\`}, {"a=b:c#d!e", `a\=b\:c\#d\!e`, `a\=b\:c\#d\!e`}, {`\\n\`, `\\\\n\\`, `\\\\n\\`}, {"==", `\=\=`, `\=\=`},
		{" ", `\ `, `\ `}, {"  ", `\ \ `, `\  `}, {"   ", `\ \ \ `, `\   `}, {" a", `\ a`, `\ a`}, {"  a", `\ \ a`, `\  a`}, {"a b", `a\ b`, `a b`}, {"a  b", `a\ \ b`, "a  b"}, {"a ", `a\ `, "a "}, {" a b ", `\ a\ b\ `, `\ a b `}, {"= ", `\=\ `, `\= `}, {` \ `, `\ \\\ `, `\ \\ `}, {" =", `\ \=`, `\ \=`},
		{"\n", `\n`, `\n`}, {"\t", `\t`, `\t`}, {"\r", `\r`, `\r`}, {"\f", `\f`, `\f`}, {"\r\n", `\r\n`, `\r\n`}, {"\t a\t \f", `\t\ a\t\ \f`, `\t a\t \f`}, {" \n ", `\ \n\ `, `\ \n `}, {"\n ", `\n\ `, `\n `},
		{"\x00", `\u0000`, `\u0000`}, {"\x01\b\v\x0e\x1f", `\u0001\u0008\u000b\u000e\u001f`, `\u0001\u0008\u000b\u000e\u001f`}, {"\x7f", `\u007f`, `\u007f`}, {"~\x7f", `~\u007f`, `~\u007f`}, {"\x000041", `\u00000041`, `\u00000041`},
		{"\u0080", `\u0080`, `\u0080`}, {"\u00a0", `\u00a0`, `\u00a0`}, {"\u00e9", `\u00e9`, `\u00e9`}, {"\u00ff\u0100", `\u00ff\u0100`, `\u00ff\u0100`}, {"\u07ff\u0800", `\u07ff\u0800`, `\u07ff\u0800`}, {"\u2028\u3000\uabcd", `\u2028\u3000\uabcd`, `\u2028\u3000\uabcd`}, {"\ud7ff\ue000", `\ud7ff\ue000`, `\ud7ff\ue000`}, {"\ufeff\ufffd\uffff", `\ufeff\ufffd\uffff`, `\ufeff\ufffd\uffff`},
		{"\U00010000", `\ud800\udc00`, `\ud800\udc00`}, {"\U000103ff\U00010400", `\ud800\udfff\ud801\udc00`, `\ud800\udfff\ud801\udc00`}, {"\U0001f600", `\ud83d\ude00`, `\ud83d\ude00`}, {"\U0010ffff", `\udbff\udfff`, `\udbff\udfff`},
		{" \u00e9 \U0001f600 ", `\ \u00e9\ \ud83d\ude00\ `, `\ \u00e9 \ud83d\ude00 `}, {"a\\\n\u00e9=\x7f", `a\\\n\u00e9\=\u007f`, `a\\\n\u00e9\=\u007f`},
	} {
		checkPropKey(t, c[0], c[1])
		checkPropValue(t, c[0], c[2])
	}
}

// TestPropKeyAndValueOfNoSigns: the bytes from 128 on are not changed if they are no code points, even if some of them are.
func TestPropKeyAndValueOfNoSigns(t *testing.T) {
	for _, c := range [][3]string{
		{"\xff", "\xff", "\xff"}, {"\x80\xbf", "\x80\xbf", "\x80\xbf"}, {"a\xc3", "a\xc3", "a\xc3"}, {"\xc3\xa9\xff", "\xc3\xa9\xff", "\xc3\xa9\xff"}, {"\xff\U0001f600", "\xff\U0001f600", "\xff\U0001f600"}, {"\u00e9 \xc3", "\u00e9\\ \xc3", "\u00e9 \xc3"},
		{"\xed\xa0\xbd\xed\xb8\x80", "\xed\xa0\xbd\xed\xb8\x80", "\xed\xa0\xbd\xed\xb8\x80"}, {"\xc0\x80", "\xc0\x80", "\xc0\x80"}, {"\xf4\x90\x80\x80", "\xf4\x90\x80\x80", "\xf4\x90\x80\x80"}, {"\xc2\x7f", "\xc2\\u007f", "\xc2\\u007f"},
		{" \xff ", "\\ \xff\\ ", "\\ \xff "}, {"  \xff", "\\ \\ \xff", "\\  \xff"}, {"\xff=:#!\\", "\xff\\=\\:\\#\\!\\\\", "\xff\\=\\:\\#\\!\\\\"}, {"\n\t\r\f\xfe", "\\n\\t\\r\\f\xfe", "\\n\\t\\r\\f\xfe"}, {"\x00\v\x7f\xff\x1f", "\\u0000\\u000b\\u007f\xff\\u001f", "\\u0000\\u000b\\u007f\xff\\u001f"}, {"\xc3\n\xa9", "\xc3\\n\xa9", "\xc3\\n\xa9"}, {"\xa0a b", "\xa0a\\ b", "\xa0a b"},
	} {
		checkPropKey(t, c[0], c[1])
		checkPropValue(t, c[0], c[2])
		checkPropsRecovered(t, c[0], c[0])
	}
	for _, s := range noTexts {
		if strings.Contains(s, "\\") || strings.Contains(s, "\n") {
			continue
		}
		checkPropKey(t, s, s)
		checkPropValue(t, s, s)
		checkPropKey(t, "\u00e9 "+s, "\u00e9\\ "+s)
		checkPropValue(t, " "+s+"\U0001f600", "\\ "+s+"\U0001f600")
	}
}

func TestPropPair(t *testing.T) {
	for _, c := range [][3]string{
		{"", "", "="}, {"a", "", "a="}, {"", "1", "=1"}, {"a", "1", "a=1"}, {"a b", " c d", `a\ b=\ c d`}, {"#", "#", `\#=\#`}, {"!a", "!", `\!a=\!`}, {"=", "=", `\==\=`}, {":", " ", `\:=\ `}, {" ", "  ", `\ =\  `}, {`\`, `\`, `\\=\\`}, {"\n", "\r\n", `\n=\r\n`}, {"\t", "\f", `\t=\f`},
		{"\u00e9", "\xff\u00e9", "\\u00e9=\xff\u00e9"}, {"\xff \u00e9", "\u00e9 ", "\xff\\ \u00e9=\\u00e9 "}, {"\x00", "\x7f", `\u0000=\u007f`}, {"\U0001f600", "a\U0001f600", `\ud83d\ude00=a\ud83d\ude00`},
	} {
		if got := impl.PropPair(c[0], c[1]); got != c[2] {
			t.Errorf("PropPair(%q, %q) = %q, want %q", c[0], c[1], got, c[2])
		}
		checkPropsRecovered(t, c[0], c[1])
	}
}

// TestPropPairMaxText: a pair may be written that is too long to be read.
func TestPropPairMaxText(t *testing.T) {
	for sign, size := range map[string]int{"v": 1, "\xff": 1, "=": 2, "\n": 2, "\u00e9": 6, "\U0001f600": 12} {
		n := (impl.MaxText - len("=\n")) / size
		most, more := strings.Repeat(sign, n), strings.Repeat(sign, n+1)
		checkPropsRecovered(t, "", most)
		checkPropsRecovered(t, most, "")
		checkPropsParsed(t, impl.PropPair("", more)+"\n", nil)
		checkPropsParsed(t, impl.PropPair(more, "")+"\n", nil)
	}
}

// TestPropTextsOfAnyLength: MaxText limits files alone.
func TestPropTextsOfAnyLength(t *testing.T) {
	const n = 10 * impl.MaxText
	s := strings.Repeat(" =\\\n\u00e9\U0001f600a", n)
	checkPropKey(t, s, strings.Repeat(`\ \=\\\n\u00e9\ud83d\ude00a`, n))
	checkPropValue(t, s, `\`+strings.Repeat(` \=\\\n\u00e9\ud83d\ude00a`, n))
	checkPropText(t, impl.PropKey(s), s, true)
	checkPropText(t, impl.PropValue(s), s, true)
	checkPropKey(t, s+"\xff", strings.Repeat("\\ \\=\\\\\\n\u00e9\U0001f600a", n)+"\xff")
	checkPropText(t, impl.PropKey(s)+`\u`, "", false)
	checkPropText(t, strings.Repeat(`\`, 2*n+1), strings.Repeat(`\`, n), true)
	if got := impl.PropPair(s, s); got != impl.PropKey(s)+"="+impl.PropValue(s) {
		t.Errorf("PropPair of long texts has %d bytes", len(got))
	}
}

// TestPropsChangeNothing: neither a call nor what it returned before bears on the next one.
func TestPropsChangeNothing(t *testing.T) {
	for _, s := range []string{"", " a\n=\u00e9\\", "\xff \\u00", `\ud83d\ude00\`, "\\u0041 = b\\\n c\n#\n"} {
		arg := strings.Clone(s)
		var texts []string
		var recs [][]impl.Rec
		for range 2 {
			text, _ := impl.PropText(arg)
			texts = append(texts, text, impl.PropKey(arg), impl.PropValue(arg), impl.PropPair(arg, arg))
			recs = append(recs, impl.ParseProps(arg))
			impl.PropText(`\u12`)
			impl.PropPair("\xff", " ")
			impl.ParseProps("a=\\u\nb\\")
		}
		if arg != s || !slices.Equal(texts[:4], texts[4:]) || !slices.Equal(recs[0], recs[1]) {
			t.Errorf("%q: %q, %q, %+v", s, arg, texts, recs)
		}
	}
}
