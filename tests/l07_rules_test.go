package tests

import (
	"fmt"
	"regexp"
	"slices"
	"strconv"
	"strings"
	"testing"
	"unicode/utf16"

	"loop.example/g00727/impl"
)

// The rules of chapter 7 as patterns. Where an escape begins, the byte ahead is
// no backslash that counts.
var (
	propLine = regexp.MustCompile(`(?s)\A[ \t\f]*(.*)\z`)
	propOn   = regexp.MustCompile(`(?s)\A((?:[^\\]|\\.)*)\\\z`)
	propPair = regexp.MustCompile(`(?s)\A((?:[^\\ \t\f=:]|\\.)*)[ \t\f]*[=:]?[ \t\f]*(.*)\z`)
	propText = regexp.MustCompile(`(?s)\A(?:[^\\]|\\[^u]|` + alonePattern + `|` + pairPattern + `)*\\?\z`)
	propUnit = regexp.MustCompile(`(?s)` + pairPattern + `|` + alonePattern + `|\\.|\\\z`)
	notAscii = regexp.MustCompile(`[^\x00-\x7f]+`)
)

var propLetters = map[string]string{`\n`: "\n", `\t`: "\t", `\r`: "\r", `\f`: "\f", `\`: ""}

func propTextByRule(s string) (string, bool) {
	if !propText.MatchString(s) {
		return "", false
	}
	return propUnit.ReplaceAllStringFunc(s, func(part string) string {
		unit := func(at int) rune {
			n, _ := strconv.ParseUint(part[at:at+4], 16, 16)
			return rune(n)
		}
		letter, known := propLetters[part]
		switch {
		case known:
			return letter
		case len(part) == 12:
			return signBytes(int(utf16.DecodeRune(unit(2), unit(8))))
		case part[1] == 'u':
			return signBytes(int(unit(2)))
		}
		return part[1:]
	}), true
}

// propEscapes are the replacements that PropKey and PropValue make below 128
// but for spaces.
func propEscapes(more ...string) *strings.Replacer {
	pairs := append([]string{"=", `\=`, ":", `\:`, "#", `\#`, "!", `\!`, `\`, `\\`, "\n", `\n`, "\t", `\t`, "\r", `\r`, "\f", `\f`, "\x7f", `\u007f`}, more...)
	for i := range 32 {
		if b := string([]byte{byte(i)}); !slices.Contains(pairs, b) {
			pairs = append(pairs, b, fmt.Sprintf(`\u%04x`, i))
		}
	}
	return strings.NewReplacer(pairs...)
}

var keyEscapes, valueEscapes = propEscapes(" ", `\ `), propEscapes()

func signEscapes(s string) string {
	if _, ok := signsOneByOne(s); !ok {
		return s
	}
	return notAscii.ReplaceAllStringFunc(s, escapesOf)
}

func propKeyByRule(s string) string { return signEscapes(keyEscapes.Replace(s)) }

func propValueByRule(s string) string {
	text := signEscapes(valueEscapes.Replace(s))
	if strings.HasPrefix(s, " ") {
		return `\` + text
	}
	return text
}

// firstPropByRule returns the record of the first lines, but for Raw and Line,
// and how many these are.
func firstPropByRule(lines []impl.Line) (impl.Rec, int) {
	part := func(n int) string { return propLine.FindStringSubmatch(lines[n].Text)[1] }
	text, n := part(0), 1
	if text == "" {
		return impl.Rec{Kind: impl.RkBlank}, n
	}
	if text[0] == '#' || text[0] == '!' {
		return impl.Rec{Kind: impl.RkNote}, n
	}
	for match := propOn.FindStringSubmatch(text); match != nil; match = propOn.FindStringSubmatch(text) {
		text = match[1]
		if n < len(lines) {
			text += part(n)
			n++
		}
	}
	match := propPair.FindStringSubmatch(text)
	key, keyOk := propTextByRule(match[1])
	value, valueOk := propTextByRule(match[2])
	if !keyOk || !valueOk {
		return impl.Rec{Kind: impl.RkOdd}, n
	}
	return impl.Rec{Kind: impl.RkPair, Key: key, Value: value}, n
}

func parsePropsByRule(s string) []impl.Rec {
	var list []impl.Rec
	for lines := linesBackwards(s); len(lines) > 0; {
		rec, n := firstPropByRule(lines)
		for _, line := range lines[:n] {
			rec.Raw += line.Text + line.End
		}
		list = append(list, rec)
		lines = lines[n:]
	}
	return placed(list)
}

func TestPropsByRule(t *testing.T) {
	for s := range joinsOf([]string{"a", "=", ":", " ", "\t", "\f", "\v", "\n", "\r", "\\", "#", "!", "\\\n", "\\u0041", "\\ud83d", "\xff"}, 4) {
		checkPropsParsed(t, s, parsePropsByRule(s))
		checkPropsLossless(t, s)
	}
	for s := range joinsOf([]string{"b", " ", "=", "\n", "\r\n", "\\", "#", "\\\n ", "\\u", "n"}, 4) {
		for _, whole := range []string{"a=" + s, "a" + s + "c", "a\\" + s + "\n c", "# a" + s, "a \\\n" + s + "\n=d\n"} {
			checkPropsParsed(t, whole, parsePropsByRule(whole))
			checkPropsLossless(t, whole)
		}
	}
}

func TestPropsLoseNoByte(t *testing.T) {
	for s := range textsOf("a= \r\n\\#u", 6) {
		checkPropsLossless(t, s)
	}
}

func TestPropsOfEveryByte(t *testing.T) {
	for i := range 256 {
		b := string([]byte{byte(i)})
		for _, s := range []string{b, b + b, b + "=" + b, "a" + b, b + "a", "a" + b + "c", "a=" + b + "c", "a=c" + b, "a\\" + b + "c", "a=\\" + b, "a=c\\\\" + b + "d", "a\\" + b + b + "c", "a=c\n" + b + "e", "a=c\\\n" + b + "e", "a=c\\\n" + b, "a " + b + " c", " " + b, b + "\\\nc", "a=\\u" + b + "000"} {
			checkPropsParsed(t, s, parsePropsByRule(s))
			checkPropsLossless(t, s)
		}
	}
}

func TestPropTextByRule(t *testing.T) {
	for s := range joinsOf([]string{`\`, `u`, `n`, `0041`, `d83d`, `DE00`, `\u00e9`, `\ud83d`, `\uDE00`, "00", "g", "\n", " ", "\x00", "\u00e9", "\xff"}, 4) {
		want, wantOk := propTextByRule(s)
		checkPropText(t, s, want, wantOk)
	}
	for list := range listsOf([]int{0, 65, 92, 55295, 55296, 55297, 56319, 56320, 56321, 57343, 57344, 65535}, 4) {
		s := ""
		for _, unit := range list {
			s += fmt.Sprintf(`\u%04x`, unit)
		}
		want, wantOk := propTextByRule(s)
		checkPropText(t, s, want, wantOk)
	}
}

func checkWrittenByRule(t *testing.T, s string) {
	t.Helper()
	checkPropKey(t, s, propKeyByRule(s))
	checkPropValue(t, s, propValueByRule(s))
	checkPropsRecovered(t, s, s)
}

func TestPropKeyAndValueByRule(t *testing.T) {
	for s := range joinsOf([]string{"a", " ", "=", ":", "#", "!", "\\", "\n", "\t", "\r", "\f", "\x00", "u0041", "\u00e9", "\U0001f600", "\xff"}, 4) {
		checkWrittenByRule(t, s)
	}
	for s := range everyByteTexts() {
		checkWrittenByRule(t, s)
		checkWrittenByRule(t, "\xff"+s)
		checkWrittenByRule(t, s+"\u00e9")
	}
}

func TestPropPairsByRule(t *testing.T) {
	parts := []string{"a", " ", "=", ":", "#", "\\", "\n", "\f", "\u00e9", "\xff"}
	for key := range joinsOf(parts, 2) {
		for value := range joinsOf(parts, 2) {
			checkPropsRecovered(t, key, value)
		}
	}
}

func TestPropsOfAllSigns(t *testing.T) {
	for r := range lastSign + 1 {
		if !isSign(r) {
			continue
		}
		s := signBytes(r)
		text := propKeyByRule(s)
		if got := impl.PropKey(s); got != text {
			t.Errorf("PropKey(%q) = %q, want %q", s, got, text)
		}
		if got := impl.PropValue(s); got != text {
			t.Errorf("PropValue(%q) = %q, want %q", s, got, text)
		}
		checkPropText(t, text, s, true)
	}
}
