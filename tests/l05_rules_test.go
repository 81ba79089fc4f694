package tests

import (
	"regexp"
	"strings"

	"loop.example/g00727/impl"
)

// iniRules are the rules of chapter 5 for one Dialect, as patterns.
type iniRules struct {
	dialect                                     impl.Dialect
	trimmed, cut, known, closed, head, pair, on *regexp.Regexp
}

func rulesOf(d impl.Dialect) iniRules {
	// A unit is an escape or a byte outside of one: where one begins, the byte
	// ahead is no backslash that counts.
	unit, inQuotes := `.`, `[^"]`
	if d.Escapes {
		unit, inQuotes = `(?:\\.|[^\\]|\\\z)`, `(?:\\.|[^"\\])`
	}
	follow := `[ \t]*`
	if d.Inline {
		follow = `(?:[ \t]*|[ \t]+[` + d.Notes + `].*)`
	}
	return iniRules{
		dialect: d,
		trimmed: regexp.MustCompile(`(?s)\A[ \t]*(` + unit + `*?)[ \t]*\z`),
		cut:     regexp.MustCompile(`(?s)\A(` + unit + `*?[ \t])[` + d.Notes + `]`),
		known:   regexp.MustCompile(`(?s)\A(?:[^\\]|\\[ntr\\"\[\]=:#;! \t])*\z`),
		closed:  regexp.MustCompile(`(?s)\A"(` + inQuotes + `*)"` + follow + `\z`),
		head:    regexp.MustCompile(`(?s)\A\[([^\]]*)\]` + follow + `\z`),
		pair:    regexp.MustCompile(`(?s)\A([^` + d.Seps + `]*)[` + d.Seps + `](.*)\z`),
		on:      regexp.MustCompile(`(?s)\A(?:.*[^\\])?(?:\\\\)*\\\z`),
	}
}

var escapeTexts = strings.NewReplacer(
	`\n`, "\n", `\t`, "\t", `\r`, "\r", `\\`, `\`, `\"`, `"`, `\[`, `[`, `\]`, `]`, `\=`, `=`, `\:`, `:`, `\#`, `#`, `\;`, `;`, `\!`, `!`, `\ `, ` `, "\\\t", "\t",
)

func (r iniRules) trim(s string) string { return r.trimmed.FindStringSubmatch(s)[1] }

func (r iniRules) unescape(s string) (string, bool) {
	if !r.dialect.Escapes {
		return s, true
	}
	if !r.known.MatchString(s) {
		return "", false
	}
	return escapeTexts.Replace(s), true
}

func (r iniRules) bare(s string) (string, bool) {
	if match := r.cut.FindStringSubmatch(s); match != nil && r.dialect.Inline {
		s = match[1]
	}
	return r.unescape(r.trim(s))
}

func (r iniRules) quoted(s string) (string, bool) {
	match := r.closed.FindStringSubmatch(s)
	if match == nil {
		return "", false
	}
	return r.unescape(match[1])
}

func (r iniRules) isNote(trimmed string) bool { return strings.IndexAny(trimmed, r.dialect.Notes) == 0 }

// rec returns the record of a text, without Raw, Section of others than
// headers, and Line, and whether its value may be continued.
func (r iniRules) rec(text string) (impl.Rec, bool) {
	text = r.trim(text)
	if text == "" {
		return impl.Rec{Kind: impl.RkBlank}, false
	}
	if r.isNote(text) {
		return impl.Rec{Kind: impl.RkNote}, false
	}
	if text[0] == '[' {
		if match := r.head.FindStringSubmatch(text); match != nil && r.trim(match[1]) != "" {
			return impl.Rec{Kind: impl.RkHead, Section: r.trim(match[1])}, false
		}
		return impl.Rec{Kind: impl.RkOdd}, false
	}
	match := r.pair.FindStringSubmatch(text)
	if match == nil || r.trim(match[1]) == "" {
		return impl.Rec{Kind: impl.RkOdd}, false
	}
	after := r.trim(match[2])
	read, bare := r.bare, true
	if r.dialect.Quotes && strings.HasPrefix(after, `"`) {
		read, bare = r.quoted, false
	}
	if value, ok := read(after); ok {
		return impl.Rec{Kind: impl.RkPair, Key: r.trim(match[1]), Value: value}, bare
	}
	return impl.Rec{Kind: impl.RkOdd}, false
}

// marked returns the joined text of the first lines, and their number.
func (r iniRules) marked(lines []impl.Line) (string, int) {
	text, n := lines[0].Text, 1
	if r.isNote(strings.TrimLeft(text, " \t")) {
		return text, n
	}
	for lines[n-1].End != "" && r.on.MatchString(lines[n-1].Text) {
		text = text[:len(text)-1]
		if n == len(lines) {
			break
		}
		text += strings.TrimLeft(lines[n].Text, " \t")
		n++
	}
	return text, n
}

// indented returns how many of the lines continue a pair, and what they add to its Value.
func (r iniRules) indented(lines []impl.Line) (string, int) {
	added := ""
	for n, line := range lines {
		trimmed := r.trim(line.Text)
		value, ok := r.bare(line.Text)
		if strings.IndexAny(line.Text, " \t") != 0 || trimmed == "" || r.isNote(trimmed) || !ok {
			return added, n
		}
		added += "\n" + value
	}
	return added, len(lines)
}

func (r iniRules) parse(s string) []impl.Rec {
	var list []impl.Rec
	for lines := linesBackwards(s); len(lines) > 0; {
		text, n := lines[0].Text, 1
		if r.dialect.Join == impl.JoMark {
			text, n = r.marked(lines)
		}
		rec, open := r.rec(text)
		if r.dialect.Join == impl.JoIndent && open {
			added, more := r.indented(lines[1:])
			rec.Value += added
			n += more
		}
		for _, line := range lines[:n] {
			rec.Raw += line.Text + line.End
		}
		list = append(list, rec)
		lines = lines[n:]
	}
	return placed(list)
}

// placed returns the records with the Section of the last header and with the
// number of their first line.
func placed(list []impl.Rec) []impl.Rec {
	section, line := "", 1
	for i := range list {
		if list[i].Kind == impl.RkHead {
			section = list[i].Section
		}
		list[i].Section, list[i].Line = section, line
		line += len(linesBackwards(list[i].Raw))
	}
	return list
}
