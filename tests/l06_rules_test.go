package tests

import (
	"fmt"
	"iter"
	"slices"
	"strings"
	"testing"

	"loop.example/g00727/impl"
)

// iniEscapes are the replacements that Escape makes, for a valid Dialect.
func iniEscapes(d impl.Dialect) *strings.Replacer {
	if !d.Escapes {
		return strings.NewReplacer()
	}
	pairs := []string{"\n", `\n`, "\t", `\t`, "\r", `\r`}
	for _, b := range strings.Split(`\"`+d.Notes, "") {
		pairs = append(pairs, b, `\`+b)
	}
	return strings.NewReplacer(pairs...)
}

// reads reports whether the text and a newline are the wanted record alone.
func (r iniRules) reads(text string, want impl.Rec) bool {
	want.Raw, want.Line = text+"\n", 1
	return len(want.Raw) <= impl.MaxText && slices.Equal(r.parse(want.Raw), []impl.Rec{want})
}

// pairLine returns the line of a pair, by the candidates as chapter 6 lists them.
func (r iniRules) pairLine(key string, value string, escapes *strings.Replacer) string {
	start, escaped := key+" "+r.dialect.Seps[:1], escapes.Replace(value)
	candidates := []string{start + " " + value, start + " " + escaped, start + ` "` + value + `"`, start + ` "` + escaped + `"`, start + " " + strings.Join(strings.SplitAfter(value, "\n"), " ")}
	if value == "" {
		candidates = slices.Insert(candidates, 0, start)
	}
	for _, text := range candidates {
		if r.reads(text, impl.Rec{Kind: impl.RkPair, Key: key, Value: value}) {
			return text
		}
	}
	return noPair
}

// forEachDialect runs check beside the others with each of the flags, joins and some Notes and Seps.
func forEachDialect(t *testing.T, check func(t *testing.T, rules iniRules)) {
	t.Helper()
	for d := range dialectsWith(impl.JoNone, impl.JoMark, impl.JoIndent) {
		for _, set := range []impl.Dialect{{Notes: "#;", Seps: "=:"}, {Notes: "!", Seps: ":"}, {Notes: ";#!", Seps: ":="}} {
			d.Notes, d.Seps = set.Notes, set.Seps
			t.Run(fmt.Sprintf("%+v", d), func(t *testing.T) {
				t.Parallel()
				check(t, rulesOf(d))
			})
		}
	}
}

// everyByteTexts goes through texts in which each byte stands alone, at the ends, inside, behind a backslash and ahead of one.
func everyByteTexts() iter.Seq[string] {
	return func(yield func(string) bool) {
		for i := range 256 {
			b := string([]byte{byte(i)})
			for _, s := range []string{b, b + b, b + "a", "a" + b, "a" + b + "a", "a " + b, "a " + b + " a", "a\\" + b, b + "\\", "\\" + b + "\\", " " + b, b + " ", "\n" + b, b + "\n", "\"" + b, b + "\"", "\"" + b + "\"", "]" + b, b + "]"} {
				if !yield(s) {
					return
				}
			}
		}
	}
}

func TestEscapeByRule(t *testing.T) {
	forEachDialect(t, func(t *testing.T, rules iniRules) {
		escapes := iniEscapes(rules.dialect)
		for s := range everyByteTexts() {
			checkEscape(t, s, rules.dialect, escapes.Replace(s))
		}
		for s := range textsOf("a #!\\\"\n\t\r", 4) {
			checkEscape(t, s, rules.dialect, escapes.Replace(s))
		}
	})
}

func TestIniHeadByRule(t *testing.T) {
	forEachDialect(t, func(t *testing.T, rules iniRules) {
		check := func(section string) {
			ok := rules.reads("["+section+"]", impl.Rec{Kind: impl.RkHead, Section: section})
			checkHead(t, section, rules.dialect, ok)
			// What the chapters come to: a name is written if it is one already.
			if plain := section != "" && rules.trim(section) == section && !strings.ContainsAny(section, "]\n\r"); plain != ok {
				t.Errorf("the rules for the header %q with %+v differ", section, rules.dialect)
			}
		}
		for section := range everyByteTexts() {
			check(section)
		}
		for section := range joinsOf([]string{"a", " ", "\t", "]", "[", "#", ";", "\\", "\n", "\r", "\\\n", "=", "\"", "\xff"}, 3) {
			check(section)
		}
	})
}

func TestIniPairByRule(t *testing.T) {
	forEachDialect(t, func(t *testing.T, rules iniRules) {
		escapes := iniEscapes(rules.dialect)
		for value := range everyByteTexts() {
			checkPair(t, "a", value, rules.dialect, rules.pairLine("a", value, escapes))
		}
		for value := range joinsOf([]string{"a", " ", "\t", "\"", "\\", "#", "!", "\n", "\r", "\n ", " #", "[b]=", "\xff"}, 3) {
			checkPair(t, "a", value, rules.dialect, rules.pairLine("a", value, escapes))
		}
	})
}

func TestIniPairOfKeysByRule(t *testing.T) {
	forEachDialect(t, func(t *testing.T, rules iniRules) {
		escapes := iniEscapes(rules.dialect)
		for key := range everyByteTexts() {
			checkPair(t, key, "v", rules.dialect, rules.pairLine(key, "v", escapes))
		}
		for key := range joinsOf([]string{"a", " ", "\t", "=", ":", "[", "]", "#", ";", "!", "\\", "\n", "\r", "\"", "\\\n", "\xff"}, 2) {
			for _, value := range []string{"", "v", " v", "v\nw", `"v # w\`} {
				checkPair(t, key, value, rules.dialect, rules.pairLine(key, value, escapes))
			}
		}
	})
}
