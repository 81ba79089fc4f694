package tests

import (
	"regexp"
	"strings"
	"testing"

	"loop.example/g00727/impl"
)

// The rules of chapter 8 as patterns for the beginning of what is left of a file.
const (
	envEndPattern    = `(?:\r\n|\r|\n|\z)`
	envFollowPattern = `(?:[ \t]*|[ \t]+#[^\r\n]*)` + envEndPattern
)

var (
	envLine     = regexp.MustCompile(`\A[^\r\n]*` + envEndPattern)
	envBlank    = regexp.MustCompile(`\A[ \t]*` + envEndPattern)
	envNote     = regexp.MustCompile(`\A[ \t]*#`)
	envStart    = regexp.MustCompile(`\A[ \t]*(?:export[ \t]+)?`)
	envKey      = regexp.MustCompile(`\A([^=\r\n]*)=[ \t]*`)
	envSingle   = regexp.MustCompile(`\A'([^']*)'` + envFollowPattern)
	envDouble   = regexp.MustCompile(`(?s)\A"((?:[^"\\]|\\.)*)"` + envFollowPattern)
	envUnquoted = regexp.MustCompile(`\A([^\r\n]*)` + envEndPattern)
	envComment  = regexp.MustCompile(`(?s)(?:\A|[ \t])#.*\z`)
	envEscapes  = regexp.MustCompile(`(?s)\\.`)
)

// envTextByRule returns the template that the text between double quotes denotes.
func envTextByRule(s string) string {
	known := map[string]string{`\n`: "\n", `\t`: "\t", `\r`: "\r", `\\`: `\`, `\"`: `"`, `\$`: `$$`}
	return envEscapes.ReplaceAllStringFunc(s, func(escape string) string {
		if denoted, ok := known[escape]; ok {
			return denoted
		}
		return escape
	})
}

// envValueByRule returns the value at the beginning of s, how many bytes it
// takes with the rest of its last line, and whether it has the form.
func envValueByRule(s string) (string, int, bool) {
	switch {
	case strings.HasPrefix(s, "'"):
		if match := envSingle.FindStringSubmatch(s); match != nil {
			return strings.Join(strings.Split(match[1], "$"), "$$"), len(match[0]), true
		}
		return "", 0, false
	case strings.HasPrefix(s, `"`):
		if match := envDouble.FindStringSubmatch(s); match != nil {
			return envTextByRule(match[1]), len(match[0]), true
		}
		return "", 0, false
	}
	match := envUnquoted.FindStringSubmatch(s)
	text := strings.Trim(envComment.ReplaceAllString(match[1], ""), " \t")
	return text, len(match[0]), !strings.ContainsAny(text, `'"`)
}

func firstEnvByRule(s string) impl.Rec {
	line := envLine.FindString(s)
	if envBlank.MatchString(s) {
		return blankOf(line)
	}
	if envNote.MatchString(s) {
		return noteOf(line)
	}
	at := len(envStart.FindString(s))
	match := envKey.FindStringSubmatch(s[at:])
	if match == nil || !envName.MatchString(strings.Trim(match[1], " \t")) {
		return oddOf(line)
	}
	at += len(match[0])
	value, size, ok := envValueByRule(s[at:])
	if !ok {
		return oddOf(line)
	}
	return pairOf(s[:at+size], strings.Trim(match[1], " \t"), value)
}

func parseEnvByRule(s string) []impl.Rec {
	var list []impl.Rec
	for rest := s; rest != ""; {
		rec := firstEnvByRule(rest)
		list = append(list, rec)
		rest = rest[len(rec.Raw):]
	}
	return placed(list)
}

func checkEnvByRule(t *testing.T, s string) {
	t.Helper()
	checkEnvParsed(t, s, parseEnvByRule(s))
	checkEnvLossless(t, s)
}

func TestEnvByRule(t *testing.T) {
	for s := range joinsOf([]string{"a", "=", " ", "\t", "\v", "\n", "\r", "'", "\"", "\\", "#", "$", "export", "b=1", "\x00", "\xff"}, 4) {
		checkEnvByRule(t, s)
	}
}

func TestEnvValuesByRule(t *testing.T) {
	for s := range joinsOf([]string{"b", " ", "\n", "\r\n", "'", "\"", "\\", "#", "$", "n", "\nc=d"}, 4) {
		for _, whole := range []string{"a=" + s, "a='" + s + "'", "a=\"" + s + "\"\n", " export a = " + s + "\ne='f'\n", "a='" + s, "a=\"" + s} {
			checkEnvByRule(t, whole)
		}
	}
}

func TestEnvKeysByRule(t *testing.T) {
	for s := range joinsOf([]string{"a", "1", "_", " ", "\t", "=", "export", "export ", "#", "'", "\n", "\u00e9"}, 4) {
		checkEnvByRule(t, s+"=b\n")
		checkEnvByRule(t, "export "+s+"='b")
		checkEnvByRule(t, "c='\n'\n\t"+s+"=\"b\nc\"\n")
	}
}

// TestEnvQuotesByRule looks at long runs of the bytes that matter within quotes.
func TestEnvQuotesByRule(t *testing.T) {
	for s := range textsOf("\\\"'\n# $", 5) {
		checkEnvByRule(t, "a=\""+s+"\nb=1\"\n")
		checkEnvByRule(t, "a='"+s+"\nb=1'\n")
	}
}

func TestEnvLosesNoByte(t *testing.T) {
	for s := range textsOf("a= \r\n\\#'\"", 5) {
		checkEnvLossless(t, s)
		checkEnvLossless(t, "a="+s)
	}
}

func TestEnvOfEveryByte(t *testing.T) {
	for i := range 256 {
		b := string([]byte{byte(i)})
		for _, s := range []string{
			b, b + b, b + "=" + b, b + "a=1\n", "a" + b + "=1\n", "a" + b + "b=1\n", "a=" + b + "b\n", "a=b" + b, "a=b" + b + "c" + b, " " + b, b + "# c", "a=b" + b + "# c", "a= " + b + "# c",
			"export" + b + "a=1", "export " + b + "a=1", "export" + b + "=1", "exp" + b + "ort=1", "a='" + b + "'\n", "a=\"" + b + "\"\n", "a='b" + b + "c\n" + b + "'", "a=\"b" + b + "c\n" + b + "\"",
			"a=\"\\" + b + "\"\n", "a=\"\\\\" + b + "\"\n", "a=\"b\\" + b + "c\\" + b + "\\" + b + "\"", "a='\\" + b + "'\n", "a=\\" + b, "a='b'" + b, "a='b'" + b + "# c", "a=\"b\"" + b + "\n", "a=\"b\" " + b + " c", "a=\"b\n\"\t" + b + "\n", "a=\"b\\" + b,
		} {
			checkEnvByRule(t, s)
			checkEnvByRule(t, "z=1\n"+s+"\nc=d\n")
		}
	}
}
