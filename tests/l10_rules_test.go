package tests

import (
	"maps"
	"slices"
	"testing"

	"loop.example/g00727/impl"
)

// fileRules are the rules of one format, and of one Dialect for FmIni.
type fileRules struct {
	format  int
	dialect impl.Dialect
	parse   func(s string) []impl.Rec
	line    func(key string, value string) string
}

func iniFileRules(rules iniRules) fileRules {
	escapes := iniEscapes(rules.dialect)
	line := func(key string, value string) string { return rules.pairLine(key, value, escapes) }
	return fileRules{impl.FmIni, rules.dialect, rules.parse, line}
}

func propPairByRule(key string, value string) string {
	line := propKeyByRule(key) + "=" + propValueByRule(value)
	want := impl.Rec{Kind: impl.RkPair, Raw: line + "\n", Key: key, Value: value, Line: 1}
	if len(want.Raw) > impl.MaxText || !slices.Equal(parsePropsByRule(want.Raw), []impl.Rec{want}) {
		return noPair
	}
	return line
}

// forEachFormat runs check beside the others with each format, and with each Dialect for FmIni.
func forEachFormat(t *testing.T, check func(t *testing.T, rules fileRules)) {
	t.Helper()
	forEachDialect(t, func(t *testing.T, rules iniRules) { check(t, iniFileRules(rules)) })
	for name, rules := range map[string]fileRules{
		"props": {impl.FmProps, impl.Dialect{}, parsePropsByRule, propPairByRule},
		"env":   {impl.FmEnv, impl.Dialect{}, parseEnvByRule, envPairByRule},
	} {
		t.Run(name, func(t *testing.T) {
			t.Parallel()
			check(t, rules)
		})
	}
}

// ok expects a text that is within the limits.
func (r fileRules) ok(list []impl.Rec) bool { return slices.Equal(r.parse(impl.RawOf(list)), list) }

// textsByRule returns the templates of all settings by the strings that Keys has for them.
func (r fileRules) textsByRule(list []impl.Rec) map[string]string {
	texts := map[string]string{}
	for _, rec := range list {
		if rec.Kind != impl.RkPair {
			continue
		}
		texts[rec.Section+"\x00"+rec.Key] = rec.Value
		if r.format != impl.FmEnv {
			texts[rec.Section+"\x00"+rec.Key] = plainOf(rec.Value)
		}
	}
	return texts
}

func (r fileRules) checkSettings(t *testing.T, f impl.File) {
	t.Helper()
	texts := r.textsByRule(f.Recs)
	checkKeys(t, f, slices.Sorted(maps.Keys(texts))...)
	for _, section := range []string{"", "s", "a", "b"} {
		for _, key := range []string{"", "a", "b", "c", "s", "a\n"} {
			if text, ok := texts[section+"\x00"+key]; ok {
				checkText(t, f, section, key, text)
			} else {
				checkNoText(t, f, section, key)
			}
		}
	}
}

func TestFilesByRule(t *testing.T) {
	forEachFormat(t, func(t *testing.T, r fileRules) {
		for s := range joinsOf([]string{"a=", "b:", "$", "'", "\"", "\n", " ", "\\", "[s]\n", "#", "\xff"}, 3) {
			f := impl.Parse(r.format, r.dialect, s)
			if !sameFile(f, impl.File{Format: r.format, Dialect: r.dialect, Recs: r.parse(s)}) || !impl.FileOk(f) || impl.Print(f) != s {
				t.Errorf("Parse(%d, %+v, %q) = %+v", r.format, r.dialect, s, f)
			}
			r.checkSettings(t, f)
		}
	})
}

// recsOfSomeText are records that some text has at some place with some of the
// rules, and others that no text has.
func recsOfSomeText() []impl.Rec {
	list := []impl.Rec{{}, {Raw: "\n", Line: 1}, {Raw: " \n", Section: "s", Line: 2}, {Kind: impl.RkNote, Raw: "#\n", Line: 1}, {Kind: impl.RkOdd, Raw: "?\n", Line: 2}, {Kind: impl.RkHead, Raw: "[s]\n", Section: "s", Line: 1}, {Kind: impl.RkOdd, Raw: "[s]\n", Line: 1}}
	for raw, values := range map[string][]string{"a=1\n": {"1", "2"}, "a:1\n": {"1"}, "a=1\\\n": {"1", "1\\"}, "a=1\\\n2\n": {"12"}, "a=1\n 2\n": {"1", "1\n2"}, "a='1\n'\n": {"1\n"}, "a='1\n": {"'1", ""}} {
		for _, value := range values {
			list = append(list, impl.Rec{Kind: impl.RkPair, Raw: raw, Key: "a", Value: value, Line: 1})
		}
	}
	for line := range 4 {
		list = append(list, impl.Rec{Kind: impl.RkPair, Raw: "b=2", Key: "b", Value: "2", Line: line}, impl.Rec{Kind: impl.RkPair, Raw: "b:2", Section: "s", Key: "b", Value: "2", Line: line}, impl.Rec{Kind: impl.RkOdd, Raw: "b:2", Line: line})
	}
	return list
}

func TestFileOkByRule(t *testing.T) {
	recs := recsOfSomeText()
	forEachFormat(t, func(t *testing.T, r fileRules) {
		valid := 0
		for list := range listsOf(recs, 2) {
			want := r.ok(list)
			checkFileOk(t, impl.File{Format: r.format, Dialect: r.dialect, Recs: list}, want)
			r.checkSettings(t, impl.File{Format: r.format, Dialect: r.dialect, Recs: list})
			if want {
				valid++
			}
		}
		if valid < 10 {
			t.Errorf("only %d of the files are valid", valid)
		}
	})
}

func TestPairLinesByRule(t *testing.T) {
	forEachFormat(t, func(t *testing.T, r fileRules) {
		for _, key := range []string{"", "a", "a b", "1", "#", "a=", "k.v", "\xff"} {
			for value := range textsOf("a $'\"\\#\n\xff", 2) {
				checkLine(t, r.format, r.dialect, key, value, r.line(key, value))
			}
		}
		for s := range everyByteTexts() {
			checkLine(t, r.format, r.dialect, "a", s, r.line("a", s))
			checkLine(t, r.format, r.dialect, s, "1", r.line(s, "1"))
		}
	})
}
