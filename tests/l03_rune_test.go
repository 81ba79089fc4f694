package tests

import (
	"fmt"
	"math"
	"regexp"
	"slices"
	"strconv"
	"strings"
	"testing"
	"unicode/utf16"

	"loop.example/g00727/impl"
)

const lastSign = 1114111

var noSigns = []int{
	-1, -2, -65, -128, -55296, -1114111, math.MinInt32, math.MinInt,
	55296, 55297, 56319, 56320, 57342, 57343,
	1114112, 1114113, 2097151, math.MaxInt32, 1 << 31, 1<<32 + 65, 1 << 40, math.MaxInt,
}

// Bytes that no code point's encoding begins with, and encodings that are cut
// off, too long, or of numbers that are no code points.
var noTexts = []string{
	"\x80", "\xbf", "\xc0", "\xc1", "\xf5", "\xf8", "\xfc", "\xfe", "\xff",
	"\xc2", "\xdf", "\xe0", "\xe0\xa0", "\xe2\x82", "\xef\xbf", "\xf0", "\xf0\x90", "\xf0\x90\x80", "\xf4\x8f\xbf",
	"\xc3\xc3\xa9", "\xe2\x82\xc3\xa9", "\xf0\x9f\x98\xf0\x9f\x98\x80", "\xc3\\", "\xe2\x82\\", "\xf0\x9f\x98\n",
	"\xc0\x80", "\xc1\xbf", "\xe0\x80\x80", "\xe0\x9f\xbf", "\xf0\x80\x80\x80", "\xf0\x8f\xbf\xbf", "\xf8\x88\x80\x80\x80",
	"\xed\xa0\x80", "\xed\xaf\xbf", "\xed\xb0\x80", "\xed\xbf\xbf", "\xed\xa0\xbd\xed\xb8\x80",
	"\xf4\x90\x80\x80", "\xf4\xbf\xbf\xbf", "\xf5\x80\x80\x80", "\xf7\xbf\xbf\xbf",
	"\xc3\xa9\xa9", "\xe2\x82\xac\x80", "\xf0\x9f\x98\x80\x80",
}

func isSign(r int) bool { return r >= 0 && r < 55296 || r > 57343 && r <= lastSign }

// signBytes encodes r by the document's numbers of bytes alone.
func signBytes(r int) string {
	next := func(shift int) byte { return byte(128 + r>>shift%64) }
	switch {
	case r < 128:
		return string([]byte{byte(r)})
	case r < 2048:
		return string([]byte{byte(192 + r>>6), next(0)})
	case r < 65536:
		return string([]byte{byte(224 + r>>12), next(6), next(0)})
	}
	return string([]byte{byte(240 + r>>18), next(12), next(6), next(0)})
}

// firstSign tries the lengths one by one and holds each number against its encoding.
func firstSign(s string) (int, int) {
	for size := 1; size <= min(4, len(s)); size++ {
		r := int(s[0])
		if size > 1 {
			r %= 1 << (7 - size)
		}
		for i := 1; i < size; i++ {
			r = r<<6 + int(s[i])%64
		}
		if isSign(r) && signBytes(r) == s[:size] {
			return r, size
		}
	}
	return 0, 0
}

func signsOneByOne(s string) ([]int, bool) {
	var list []int
	for s != "" {
		r, size := firstSign(s)
		if size == 0 {
			return nil, false
		}
		list = append(list, r)
		s = s[size:]
	}
	return list, true
}

func escapesOf(s string) string {
	text := ""
	for _, r := range s {
		switch {
		case r == '\\':
			text += `\\`
		case r >= ' ' && r <= '~':
			text += string(r)
		default:
			for _, unit := range utf16.Encode([]rune{r}) {
				text += fmt.Sprintf(`\u%04x`, unit)
			}
		}
	}
	return text
}

const (
	alonePattern = `\\u(?:[0-9a-ce-fA-CE-F][0-9a-fA-F]{3}|[dD][0-7][0-9a-fA-F]{2})`
	pairPattern  = `\\u[dD][89abAB][0-9a-fA-F]{2}\\u[dD][c-fC-F][0-9a-fA-F]{2}`
	pieces       = `[^\\]|\\\\|` + alonePattern + `|` + pairPattern
)

var (
	piece  = regexp.MustCompile(pieces)
	escape = regexp.MustCompile(`^(?:` + pieces + `)*$`)
)

func unescaped(s string) (string, bool) {
	if _, ok := signsOneByOne(s); !ok || !escape.MatchString(s) {
		return "", false
	}
	return piece.ReplaceAllStringFunc(s, func(part string) string {
		unit := func(at int) rune {
			n, _ := strconv.ParseUint(part[at:at+4], 16, 16)
			return rune(n)
		}
		switch {
		case part[0] != '\\':
			return part
		case len(part) == 2:
			return `\`
		case len(part) == 6:
			return signBytes(int(unit(2)))
		}
		return signBytes(int(utf16.DecodeRune(unit(2), unit(8))))
	}), true
}

func checkSigns(t *testing.T, s string, want []int, wantOk bool) {
	t.Helper()
	if got, ok := impl.Signs(s); ok != wantOk || !slices.Equal(got, want) {
		t.Errorf("Signs(%q) = %v, %v, want %v, %v", s, got, ok, want, wantOk)
	}
}

func checkTextOf(t *testing.T, list []int, want string, wantOk bool) {
	t.Helper()
	if got, ok := impl.TextOf(list); ok != wantOk || got != want {
		t.Errorf("TextOf(%v) = %q, %v, want %q, %v", list, got, ok, want, wantOk)
	}
}

func checkPutEscapes(t *testing.T, s string, want string) {
	t.Helper()
	if got := impl.PutEscapes(s); got != want {
		t.Errorf("PutEscapes(%q) = %q, want %q", s, got, want)
	}
}

func checkGetEscapes(t *testing.T, s string, want string, wantOk bool) {
	t.Helper()
	if got, ok := impl.GetEscapes(s); ok != wantOk || got != want {
		t.Errorf("GetEscapes(%q) = %q, %v, want %q, %v", s, got, ok, want, wantOk)
	}
}

func TestSignText(t *testing.T) {
	cases := []struct {
		r    int
		want string
	}{
		{0, "\x00"}, {10, "\n"}, {65, "A"}, {92, "\\"}, {127, "\x7f"},
		{128, "\xc2\x80"}, {233, "\xc3\xa9"}, {255, "\xc3\xbf"}, {2047, "\xdf\xbf"},
		{2048, "\xe0\xa0\x80"}, {8364, "\xe2\x82\xac"}, {55295, "\xed\x9f\xbf"},
		{57344, "\xee\x80\x80"}, {65533, "\xef\xbf\xbd"}, {65535, "\xef\xbf\xbf"},
		{65536, "\xf0\x90\x80\x80"}, {128512, "\xf0\x9f\x98\x80"}, {1114111, "\xf4\x8f\xbf\xbf"},
	}
	for _, c := range cases {
		if got := impl.SignText(c.r); got != c.want {
			t.Errorf("SignText(%d) = %q, want %q", c.r, got, c.want)
		}
		checkTextOf(t, []int{c.r}, c.want, true)
		checkSigns(t, c.want, []int{c.r}, true)
	}
}

func TestNoSigns(t *testing.T) {
	for _, r := range noSigns {
		if got := impl.SignText(r); got != "" {
			t.Errorf("SignText(%d) = %q", r, got)
		}
		for _, list := range [][]int{{r}, {r, 65}, {65, r}, {65, r, 233}, {r, r}, {0, r}, {128512, 55295, r}} {
			checkTextOf(t, list, "", false)
		}
	}
}

func TestAllSignsAreRecovered(t *testing.T) {
	for r := -3; r <= lastSign+3; r++ {
		got := impl.SignText(r)
		if !isSign(r) {
			if got != "" {
				t.Errorf("SignText(%d) = %q", r, got)
			}
			continue
		}
		if want := signBytes(r); got != want {
			t.Errorf("SignText(%d) = %q, want %q", r, got, want)
		}
		if list, ok := impl.Signs(got); !ok || len(list) != 1 || list[0] != r {
			t.Errorf("Signs(SignText(%d)) = %v, %v", r, list, ok)
		}
		put := impl.PutEscapes(got)
		if back, ok := impl.GetEscapes(put); !ok || back != got {
			t.Errorf("%d is escaped as %q and recovered as %q, %v", r, put, back, ok)
		}
	}
}

func TestSigns(t *testing.T) {
	cases := []struct {
		s    string
		want []int
	}{
		{"", nil}, {"a", []int{97}}, {"a=1\r\n", []int{97, 61, 49, 13, 10}}, {"\x00\x00", []int{0, 0}}, {"\\u0041", []int{92, 117, 48, 48, 52, 49}},
		{"a\u00e9\U0001f600\u20acz", []int{97, 233, 128512, 8364, 122}}, {"\x7f\u0080\u07ff\u0800\uffff\U00010000", []int{127, 128, 2047, 2048, 65535, 65536}},
		{"\ufffd", []int{65533}}, {"\ufeffa", []int{65279, 97}}, {"e\u0301", []int{101, 769}}, {"\ufdd0\ufffe", []int{64976, 65534}},
	}
	for _, c := range cases {
		checkSigns(t, c.s, c.want, true)
		checkTextOf(t, c.want, c.s, true)
	}
	checkTextOf(t, []int{}, "", true)
	checkTextOf(t, nil, "", true)
}

func TestNoTexts(t *testing.T) {
	for _, bad := range noTexts {
		for _, s := range []string{bad, "a" + bad, bad + "a", "\u00e9" + bad, bad + "\u20ac", "\ufffd" + bad, "\x00" + bad + "\x00"} {
			checkSigns(t, s, nil, false)
			checkPutEscapes(t, s, "")
			checkGetEscapes(t, s, "", false)
			checkGetEscapes(t, `\u0041`+s, "", false)
			checkGetEscapes(t, s+`\ud83d\ude00`, "", false)
		}
	}
}

func TestSignsOfAllShortTexts(t *testing.T) {
	check := func(s string) {
		want, wantOk := signsOneByOne(s)
		checkSigns(t, s, want, wantOk)
		if wantOk {
			checkTextOf(t, want, s, true)
		}
	}
	for a := range 256 {
		for b := range 256 {
			check(string([]byte{byte(a), byte(b)}))
		}
	}
	for s := range textsOf("\x00a\x7f\x80\x8f\x90\x9f\xa0\xbf\xc1\xc2\xdf\xe0\xe1\xed\xef\xf0\xf4\xf5\xff", 4) {
		check(s)
	}
}

func TestTextsOfAllShortLists(t *testing.T) {
	for list := range listsOf([]int{-1, 0, 92, 127, 128, 2047, 2048, 55295, 55296, 57343, 57344, 65535, 65536, 1114111, 1114112}, 3) {
		want, wantOk := "", true
		for _, r := range list {
			want += signBytes(max(r, 0))
			wantOk = wantOk && isSign(r)
		}
		if !wantOk {
			checkTextOf(t, list, "", false)
			continue
		}
		checkTextOf(t, list, want, true)
		checkSigns(t, want, list, true)
	}
}

func TestPutEscapes(t *testing.T) {
	cases := [][2]string{
		{"", ""}, {"plain text", "plain text"}, {" !\"#$%&'()*+,-./09:;<=>?@AZ[]^_`az{|}~", " !\"#$%&'()*+,-./09:;<=>?@AZ[]^_`az{|}~"},
		{"\\", `\\`}, {"\\\\", `\\\\`}, {`\n`, `\\n`}, {`\u0041`, `\\u0041`}, {`\ud83d`, `\\ud83d`},
		{"\x00", `\u0000`}, {"\t", `\u0009`}, {"\n", `\u000a`}, {"\r\n", `\u000d\u000a`}, {"\x1f ", `\u001f `}, {"~\x7f", `~\u007f`},
		{"\u0080", `\u0080`}, {"\u00e9", `\u00e9`}, {"\u07ff\u0800", `\u07ff\u0800`}, {"\u20ac", `\u20ac`},
		{"\ud7ff\ue000", `\ud7ff\ue000`}, {"\ufffd\uffff", `\ufffd\uffff`},
		{"\U00010000", `\ud800\udc00`}, {"\U000103ff", `\ud800\udfff`}, {"\U00010400", `\ud801\udc00`},
		{"\U0001f600", `\ud83d\ude00`}, {"\U0010fc00", `\udbff\udc00`}, {"\U0010ffff", `\udbff\udfff`},
		{"a\\\n\u00e9\U0001f600\x7fz", `a\\\u000a\u00e9\ud83d\ude00\u007fz`}, {"\U0001f600\U0001f601", `\ud83d\ude00\ud83d\ude01`},
		{"\xff", ""}, {"a\xc3", ""}, {"\\\x80", ""}, {"\xed\xa0\xbd\xed\xb8\x80", ""}, {"\n\xf4\x90\x80\x80", ""},
	}
	for _, c := range cases {
		checkPutEscapes(t, c[0], c[1])
	}
}

func TestGetEscapes(t *testing.T) {
	cases := [][2]string{
		{"", ""}, {"plain \u00e9\U0001f600\n\x00\x7f", "plain \u00e9\U0001f600\n\x00\x7f"}, {"u0041", "u0041"}, {"/u0041", "/u0041"},
		{`\\`, `\`}, {`\\\\`, `\\`}, {`\\u0041`, `\u0041`}, {`\\\u0041`, `\A`}, {`\\\\u0041`, `\\u0041`}, {`\\n`, `\n`}, {`\\ud83d`, `\ud83d`},
		{`\u0041`, "A"}, {`a\u0042c`, "aBc"}, {`\u00411`, "A1"}, {`\u00e9\u00E9\u00eA`, "\u00e9\u00e9\u00ea"}, {`\uABCD\uabcd\uAbCd`, "\uabcd\uabcd\uabcd"},
		{`\u0000`, "\x00"}, {`\u000a`, "\n"}, {`\u005c`, `\`}, {`\u005cu0041`, `\u0041`}, {`\u005c\u005C`, `\\`}, {`\u005c\\`, `\\`}, {`\u007f\u0080`, "\x7f\u0080"},
		{`\u07ff\u0800`, "\u07ff\u0800"}, {`\ud7ff`, "\ud7ff"}, {`\ue000`, "\ue000"}, {`\uffff`, "\uffff"}, {`\ufffd`, "\ufffd"},
		{`\ud800\udc00`, "\U00010000"}, {`\ud800\udfff`, "\U000103ff"}, {`\udbff\udc00`, "\U0010fc00"}, {`\udbff\udfff`, "\U0010ffff"},
		{`\uD83D\uDE00`, "\U0001f600"}, {`\ud83D\uDe00x`, "\U0001f600x"}, {`\ud83d\ude00\ud83d\ude01`, "\U0001f600\U0001f601"},
		{`\u0041\ud83d\ude00\u0042`, "A\U0001f600B"}, {`\\\ud83d\ude00\\`, "\\\U0001f600\\"},
	}
	for _, c := range cases {
		checkGetEscapes(t, c[0], c[1], true)
	}
}

func TestNoEscapes(t *testing.T) {
	cases := []string{
		`\`, `\\\`, `a\`, `\u0041\`, `\n`, `\t`, `\"`, `\ `, `\0`, `\x41`, `\U0041`, `\U00000041`, "\\\n", "\\\x00", "\\\u00e9", "\\\U0001f600", `\/`,
		`\u`, `\u1`, `\u12`, `\u123`, `\u\u0041`, `\u004\u0041`, `\u004\`, `\u004\\`, `\u{41}`, `\uu0041`,
		`\u12g4`, `\ug234`, `\u123g`, `\u 041`, `\u+041`, `\u-041`, `\u004 `, `\u00_1`, `\u0x41`, "\\u004\n", "\\u004\x00", "\\u004\u00e9", "\\u00\u00e9", "\\u\U0001f600", "\\u004\uff11",
		`\ud83d`, `\ud800`, `\udbff`, `\uD800`, `a\ud83d`, `\u0041\ud83d`, `\ud83d\`, `\ud83d\u`, `\ud83d\ude0`, `\ud83d\ude0g`, `\ud83dude00`,
		`\ud83dx`, `\ud83d `, `\ud83dx\ude00`, "\\ud83d\n", "\\ud83d\u00e9", "\\ud83d\U0001f600", `\ud83d\\`, `\ud83d\\ude00`, `\ud83d\\\ude00`, `\ud83d\n`,
		`\ude00`, `\udc00`, `\udfff`, `\uDFFF`, `a\ude00`, `\ude00\ud83d`, `\ude00\ude00`, `\u0041\ude00`, `\\\ude00`, `\ud83d\ude00\ude00`,
		`\ud83d\ud83d`, `\ud800\ud800`, `\ud83d\ud83d\ude00`, `\ud83d\ude00\ud83d`, `\ud83d\udbff`,
		`\ud83d\u0041`, `\ud83d\ud7ff`, `\ud83d\ue000`, `\ud83d\uffff`, `\ud83d\u0041\ude00`, `\ud83d\u005c`,
	}
	for _, s := range cases {
		checkGetEscapes(t, s, "", false)
		checkGetEscapes(t, `\u0041b\\`+s, "", false)
	}
}

func TestEscapesOfOneByte(t *testing.T) {
	for b := range 256 {
		one := string([]byte{byte(b)})
		want, wantOk := "", false
		if one == `\` {
			want, wantOk = `\`, true
		}
		checkGetEscapes(t, `\`+one, want, wantOk)
		isDigit := strings.Contains("0123456789abcdefABCDEF", one)
		for i := range 4 {
			if _, ok := impl.GetEscapes(`\u` + "0000"[:i] + one + "0000"[i+1:]); ok != isDigit {
				t.Errorf("byte %d as digit %d of an escape: %v", b, i, ok)
			}
		}
	}
}

func TestAllEscapesOfOneUnit(t *testing.T) {
	for unit := range 65536 {
		want := ""
		if isSign(unit) {
			want = signBytes(unit)
		}
		checkGetEscapes(t, fmt.Sprintf(`\u%04x`, unit), want, isSign(unit))
		checkGetEscapes(t, fmt.Sprintf(`\u%04X`, unit), want, isSign(unit))
	}
}

func TestPairsAtTheirEdges(t *testing.T) {
	units := []int{0, 65, 92, 55295, 55296, 55297, 56318, 56319, 56320, 56321, 57342, 57343, 57344, 65535}
	for list := range listsOf(units, 4) {
		s := ""
		for _, unit := range list {
			s += fmt.Sprintf(`\u%04x`, unit)
		}
		want, wantOk := unescaped(s)
		checkGetEscapes(t, s, want, wantOk)
	}
}

func TestEscapesOfAllShortTexts(t *testing.T) {
	parts := []string{`\`, `u`, `0041`, `d83d`, `DE00`, `\u00e9`, `\ud83d`, `\uDE00`, "00", "g", "\n", "\x00", "\u00e9", "\U0001f600", "\xff", "\xa9", "\xc3"}
	for s := range joinsOf(parts, 4) {
		want, wantOk := unescaped(s)
		checkGetEscapes(t, s, want, wantOk)
		if _, ok := signsOneByOne(s); !ok {
			checkPutEscapes(t, s, "")
			continue
		}
		put := impl.PutEscapes(s)
		checkPutEscapes(t, s, escapesOf(s))
		checkGetEscapes(t, put, s, true)
	}
}

// TestSignsOfAnyLength: chapter 3 limits no length.
func TestSignsOfAnyLength(t *testing.T) {
	const n = 3 * impl.MaxText
	s := strings.Repeat("a\\\u00e9\U0001f600\n", n)
	list, ok := impl.Signs(s)
	if !ok || len(list) != 5*n {
		t.Errorf("Signs of a long text: %d, %v", len(list), ok)
	}
	if got, ok := impl.TextOf(list); !ok || got != s {
		t.Errorf("TextOf a long list has %d bytes, %v", len(got), ok)
	}
	put := impl.PutEscapes(s)
	if want := strings.Repeat(`a\\\u00e9\ud83d\ude00\u000a`, n); put != want {
		t.Errorf("PutEscapes of a long text has %d bytes, want %d", len(put), len(want))
	}
	if got, ok := impl.GetEscapes(put); !ok || got != s {
		t.Errorf("GetEscapes of a long text has %d bytes, %v", len(got), ok)
	}
	if got, ok := impl.TextOf(append(list, -1)); ok || got != "" {
		t.Errorf("TextOf a long list that ends in -1 has %d bytes, %v", len(got), ok)
	}
	if got, ok := impl.Signs(s + "\xff"); ok || len(got) != 0 {
		t.Errorf("Signs of a long text that ends in byte 255: %d, %v", len(got), ok)
	}
	if got, ok := impl.GetEscapes(put + `\`); ok || got != "" {
		t.Errorf("GetEscapes of a long text that ends in a backslash has %d bytes, %v", len(got), ok)
	}
}

func TestSignListsAreNotChanged(t *testing.T) {
	for list := range listsOf([]int{-1, 65, 233, 55296, 128512}, 4) {
		whole := append(slices.Clone(list), 66, -2, 1114112)
		before := slices.Clone(whole)
		impl.TextOf(whole[:len(list)])
		impl.TextOf(whole)
		if !slices.Equal(whole, before) {
			t.Errorf("%v became %v", before, whole)
		}
	}
}

func TestSignListsShareNothing(t *testing.T) {
	const s = "a\u00e9\U0001f600"
	list, _ := impl.Signs(s)
	same, _ := impl.Signs(s)
	list = list[:cap(list)]
	for i := range list {
		list[i] = -1
	}
	if want := []int{97, 233, 128512}; !slices.Equal(same, want) {
		t.Errorf("a second list of the signs of %q became %v", s, same)
	}
	checkSigns(t, s, []int{97, 233, 128512}, true)
}
