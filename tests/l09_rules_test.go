package tests

import (
	"regexp"
	"slices"
	"strings"
	"testing"

	"loop.example/g00727/impl"
)

var envEscaped = strings.NewReplacer(`\`, `\\`, `"`, `\"`, "$", `\$`, "\n", `\n`, "\t", `\t`, "\r", `\r`)

// readsAsEnv reports whether the line and a newline are that pair alone, by the rules of chapter 8.
func readsAsEnv(line string, key string, value string) bool {
	s := line + "\n"
	want := impl.Rec{Kind: impl.RkPair, Raw: s, Key: key, Value: plainOf(value), Line: 1}
	return len(s) <= impl.MaxText && slices.Equal(parseEnvByRule(s), []impl.Rec{want})
}

// envPairByRule returns the line of a setting, by the candidates as chapter 9 lists them.
func envPairByRule(key string, value string) string {
	for _, line := range []string{key + "=" + value, key + "='" + value + "'", key + `="` + envEscaped.Replace(value) + `"`} {
		if readsAsEnv(line, key, value) {
			return line
		}
	}
	return noPair
}

// envUnquotable finds what no value without quotes can have.
var envUnquotable = regexp.MustCompile(`['"$\r\n]|(?:\A|[ \t])#|\A[ \t]|[ \t]\z`)

// envPairByShape returns what the chapters come to: which candidate it is hangs
// on the value's bytes alone, and whether there is a line on the key and the length.
func envPairByShape(key string, value string) string {
	line := key + "=" + value
	switch {
	case strings.Contains(value, "'"):
		line = key + `="` + envEscaped.Replace(value) + `"`
	case envUnquotable.MatchString(value):
		line = key + "='" + value + "'"
	}
	if !envName.MatchString(key) || len(line+"\n") > impl.MaxText {
		return noPair
	}
	return line
}

func checkEnvPairByRule(t *testing.T, key string, value string) {
	t.Helper()
	want := envPairByRule(key, value)
	if shape := envPairByShape(key, value); shape != want {
		t.Errorf("the rules for the setting %q, %q differ: %q, %q", key, value, want, shape)
	}
	checkEnvPair(t, key, value, want)
}

func TestEnvEscapeByRule(t *testing.T) {
	for s := range everyByteTexts() {
		checkEnvEscape(t, s, envEscaped.Replace(s))
	}
	for s := range textsOf("an$\\\"'\n\t\r\xff", 4) {
		checkEnvEscape(t, s, envEscaped.Replace(s))
	}
}

func TestEnvPairByRule(t *testing.T) {
	for value := range everyByteTexts() {
		checkEnvPairByRule(t, "a", value)
	}
	for value := range joinsOf([]string{"a", " ", "\t", "\"", "'", "\\", "#", "$", "=", "\n", "\r", "\nb=1\n", "\xff"}, 4) {
		checkEnvPairByRule(t, "a", value)
	}
}

func TestEnvPairOfQuotesByRule(t *testing.T) {
	for value := range textsOf("'\"\\# \n", 6) {
		checkEnvPairByRule(t, "a", value)
	}
}

func TestEnvPairOfKeysByRule(t *testing.T) {
	values := []string{"", "v", " v", "v$", "it's", "'\n\"", "# ", "=v", "v\nb=1"}
	for key := range everyByteTexts() {
		for _, value := range values {
			checkEnvPairByRule(t, key, value)
		}
	}
	for key := range joinsOf([]string{"a", "1", "_", " ", "\t", "=", "export", "export ", "#", "'", "\"", "\n", "\r", "b=1\n", "\u00e9"}, 3) {
		for _, value := range values {
			checkEnvPairByRule(t, key, value)
		}
	}
}

// TestEnvPairOfEveryLength goes through the lengths at which the candidates cease to fit.
func TestEnvPairOfEveryLength(t *testing.T) {
	for _, start := range []string{"", " #", "$\n", "'", "' #", "'\n$\\\"\t\r"} {
		for _, key := range []string{"a", strings.Repeat("k", 40)} {
			for more := range 18 {
				checkEnvPairByRule(t, key, start+strings.Repeat("v", impl.MaxText-len(key)-1-more))
			}
		}
	}
}
