package tests

import (
	"math"
	"slices"
	"strings"
	"testing"

	"loop.example/g00727/impl"
)

var formats = []int{impl.FmIni, impl.FmProps, impl.FmEnv}

var noFormats = []int{-1, 3, -2, 4, 100, 256, 256 + impl.FmEnv, 1 << 32, 1<<32 + impl.FmProps, math.MinInt, math.MaxInt}

// anyDialects are valid and invalid ones.
func anyDialects() []impl.Dialect {
	return append(slices.Collect(dialectsWith(impl.JoNone, impl.JoMark, impl.JoIndent)), invalidDialects()...)
}

func sameFile(f impl.File, g impl.File) bool {
	return f.Format == g.Format && f.Dialect == g.Dialect && slices.Equal(f.Recs, g.Recs)
}

// checkFile parses the Raws of the records, one after the other, and expects a
// valid file with these records, which is printed as it was read.
func checkFile(t *testing.T, format int, d impl.Dialect, list ...impl.Rec) {
	t.Helper()
	s := ""
	for _, rec := range list {
		s += rec.Raw
	}
	want := impl.File{Format: format, Recs: placed(slices.Clone(list))}
	if format == impl.FmIni {
		want.Dialect = d
	}
	got := impl.Parse(format, d, s)
	if !sameFile(got, want) {
		t.Errorf("Parse(%d, %+v, %q) =\n%+v, want\n%+v", format, d, s, got, want)
	}
	checkFileOk(t, want, true)
	if printed := impl.Print(got); printed != s {
		t.Errorf("Parse(%d, %+v, %q) prints as %q", format, d, s, printed)
	}
}

// checkNoFile expects that there is no such file, whatever its records are.
func checkNoFile(t *testing.T, format int, d impl.Dialect, s string) {
	t.Helper()
	if got := impl.Parse(format, d, s); !sameFile(got, impl.File{}) {
		t.Errorf("Parse(%d, %+v, %q) = %+v", format, d, s, got)
	}
	lists := [][]impl.Rec{impl.ParseIni(s, dialect("", impl.JoNone)), impl.ParseProps(s), impl.ParseEnv(s), {{Kind: impl.RkOdd, Raw: s, Line: 1}}}
	if s == "" {
		lists = append(lists, nil)
	}
	for _, list := range lists {
		// A text that is too long has no records, and a file without any may be valid.
		if impl.RawOf(list) == s {
			checkFileOk(t, impl.File{Format: format, Dialect: d, Recs: list}, false)
		}
	}
}

func checkFileOk(t *testing.T, f impl.File, want bool) {
	t.Helper()
	if got := impl.FileOk(f); got != want {
		t.Errorf("FileOk(%+v) = %v", f, got)
	}
}

// goodFiles are valid files of each format with records of all Kinds that it has.
func goodFiles() []impl.File {
	return []impl.File{
		impl.Parse(impl.FmIni, dialect("iqe", impl.JoMark), "# n\n\na = 1\n[s]\r\n a : \"2\" ; c\nb=x\\\n y\n?\n[t]\rc=\\q\nb=3"),
		impl.Parse(impl.FmIni, dialect("", impl.JoIndent), "a=1\n 2\n\n 3\n[s]\n;\nb=$x\n  # y\n"),
		impl.Parse(impl.FmIni, dialect("q", impl.JoNone), "a=1\\\n 2\n[s] \nb=\"\"\nb=\"\n[]\n"),
		impl.Parse(impl.FmProps, impl.Dialect{}, "# n\n\na = 1\r\n\\u=2\nb : x\\\n   y\r! n\n=\nc"),
		impl.Parse(impl.FmEnv, impl.Dialect{}, "# n\n\nA=1\r\nexport B='x\n$y' # c\r?\nA=\"\\$\n\"\nC="),
	}
}

func TestFormatConstants(t *testing.T) {
	if got := [...]int{impl.FmIni, impl.FmProps, impl.FmEnv}; got != [...]int{0, 1, 2} {
		t.Errorf("the formats are %v", got)
	}
}

func TestParseFormats(t *testing.T) {
	for d := range dialectsWith(impl.JoNone) {
		checkFile(t, impl.FmIni, d, noteOf("# a\n"), pairOf("a=1\n", "a", "1"), headOf("[s]\r\n", "s"), blankOf(" \n"), pairOf("b : 2\r", "b", "2"), oddOf("?\n"), pairOf("a=$x", "a", "$x"))
		checkFile(t, impl.FmProps, d, noteOf("# a\n"), pairOf("a=1\n", "a", "1"), pairOf("[s]\r\n", "[s]", ""), blankOf(" \n"), pairOf("b : 2\r", "b", "2"), pairOf("?\n", "?", ""), pairOf("a=$x", "a", "$x"))
		checkFile(t, impl.FmEnv, d, noteOf("# a\n"), pairOf("a=1\n", "a", "1"), oddOf("[s]\r\n"), blankOf(" \n"), oddOf("b : 2\r"), oddOf("?\n"), pairOf("a=$x", "a", "$x"))
	}
	checkFile(t, impl.FmIni, dialect("", impl.JoMark), pairOf("a=1\\\n2\n", "a", "12"))
	checkFile(t, impl.FmIni, dialect("", impl.JoIndent), pairOf("a=1\n 2\n", "a", "1\n2"))
	checkFile(t, impl.FmIni, impl.Dialect{Notes: "!", Seps: ":"}, noteOf("!a:1\n"), oddOf("#b=1\n"), pairOf("c=:1\n", "c=", "1"))
	checkFile(t, impl.FmProps, impl.Dialect{}, pairOf("a=1\\\n 2\n", "a", "12"), pairOf("\\u00e9\n", "\u00e9", ""), oddOf("\\ud83d"))
	checkFile(t, impl.FmEnv, impl.Dialect{}, pairOf("a='$\n2'\n", "a", "$$\n2"), pairOf("a=\"\\$\"\n", "a", "$$"), oddOf("a=b'"))
}

func TestParseDialects(t *testing.T) {
	for _, d := range anyDialects() {
		list := []impl.Rec{noteOf("# a\n"), pairOf("a=1\n", "a", "1")}
		checkFile(t, impl.FmProps, d, list...)
		checkFile(t, impl.FmEnv, d, list...)
		if impl.DialectOk(d) {
			checkFile(t, impl.FmIni, d, list...)
		}
	}
	for _, d := range invalidDialects() {
		for _, s := range []string{"", "\n", "# a\n", "a=1\n", "[s]\na=1", "\x00\xff"} {
			checkNoFile(t, impl.FmIni, d, s)
		}
	}
}

func TestParseUnknownFormats(t *testing.T) {
	for _, format := range noFormats {
		for _, d := range anyDialects() {
			for _, s := range []string{"", "\n", "# a\n", "a=1\n", "[s]\na=1", "\x00\xff"} {
				checkNoFile(t, format, d, s)
			}
		}
	}
}

func TestParseEmptyText(t *testing.T) {
	for _, d := range anyDialects() {
		checkFile(t, impl.FmProps, d)
		checkFile(t, impl.FmEnv, d)
		if impl.DialectOk(d) {
			checkFile(t, impl.FmIni, d)
		}
	}
}

func TestParseMaxText(t *testing.T) {
	for _, format := range formats {
		d := dialect("iqe", impl.JoMark)
		long := strings.Repeat("v", impl.MaxText-len("a=\n"))
		checkFile(t, format, d, pairOf("a="+long+"\n", "a", long))
		checkFile(t, format, d, pairOf("a="+long[1:]+"\n", "a", long[1:]))
		checkFile(t, format, d, pairOf("a="+long+"v", "a", long+"v"))
		checkFile(t, format, d, blankOf(strings.Repeat(" ", impl.MaxText)))
		checkFile(t, format, d, noteOf("#"+strings.Repeat("\xff", impl.MaxText-1)))
		checkFile(t, format, d, noteOf("#\n"), noteOf("#"+strings.Repeat("\x00", impl.MaxText-3)))
		for _, s := range []string{"a=" + long + "v\n", "a=" + long + "\n\n", strings.Repeat(" ", impl.MaxText+1), strings.Repeat("#", impl.MaxText+1), strings.Repeat("\xff", impl.MaxText+1), "#\n#" + strings.Repeat("\x00", impl.MaxText-2), strings.Repeat("\n", 100*impl.MaxText)} {
			checkNoFile(t, format, d, s)
		}
	}
}

// TestFilesMaxRecs: what is behind the last record that fits belongs to that one.
func TestFilesMaxRecs(t *testing.T) {
	for _, format := range formats {
		d := dialect("", impl.JoNone)
		list := slices.Repeat([]impl.Rec{noteOf("# a\n"), pairOf("a=1\n", "a", "1")}, impl.MaxRecs/2)
		checkFile(t, format, d, list...)
		full := slices.Clone(list[:impl.MaxRecs-1])
		for _, rest := range []string{"a=1\na=2\n", "\n\n", "# a\n[s]", "a=1\n#\n\n"} {
			checkFile(t, format, d, append(full, oddOf(rest))...)
		}
		f := impl.Parse(format, d, "")
		f.Recs = placed(append(list, noteOf("# a\n")))
		checkFileOk(t, f, false)
	}
}

func TestFilesOfAnyBytes(t *testing.T) {
	for _, format := range formats {
		for s := range everyByteTexts() {
			for _, text := range []string{s, "a=" + s, "# " + s + "\na=1\n", "a=1\n" + s} {
				f := impl.Parse(format, dialect("iqe", impl.JoMark), text)
				checkFileOk(t, f, true)
				if got := impl.Print(f); got != text {
					t.Errorf("Parse(%d, %q) prints as %q", format, text, got)
				}
			}
		}
	}
}

func TestFilesWithoutRecords(t *testing.T) {
	for _, none := range [][]impl.Rec{nil, {}, make([]impl.Rec, 0, 4)} {
		checkFileOk(t, impl.File{Recs: none}, false)
		for _, d := range anyDialects() {
			checkFileOk(t, impl.File{Format: impl.FmIni, Dialect: d, Recs: none}, impl.DialectOk(d))
			checkFileOk(t, impl.File{Format: impl.FmProps, Dialect: d, Recs: none}, d == impl.Dialect{})
			checkFileOk(t, impl.File{Format: impl.FmEnv, Dialect: d, Recs: none}, d == impl.Dialect{})
			for _, format := range noFormats {
				checkFileOk(t, impl.File{Format: format, Dialect: d, Recs: none}, false)
			}
		}
	}
}

// TestFileOkDialects: the formats without a Dialect have the zero one.
func TestFileOkDialects(t *testing.T) {
	list := []impl.Rec{{Kind: impl.RkPair, Raw: "a=1\n", Key: "a", Value: "1", Line: 1}}
	for _, d := range anyDialects() {
		checkFileOk(t, impl.File{Format: impl.FmIni, Dialect: d, Recs: list}, impl.DialectOk(d))
		checkFileOk(t, impl.File{Format: impl.FmProps, Dialect: d, Recs: list}, d == impl.Dialect{})
		checkFileOk(t, impl.File{Format: impl.FmEnv, Dialect: d, Recs: list}, d == impl.Dialect{})
		for _, format := range noFormats {
			checkFileOk(t, impl.File{Format: format, Dialect: d, Recs: list}, false)
		}
	}
	for _, d := range []impl.Dialect{{Notes: "#"}, {Seps: "="}, {Inline: true}, {Quotes: true}, {Escapes: true}, {Join: 1}, {Join: -1}} {
		checkFileOk(t, impl.File{Format: impl.FmProps, Dialect: d, Recs: list}, false)
		checkFileOk(t, impl.File{Format: impl.FmEnv, Dialect: d, Recs: list}, false)
	}
	// The records are those of one format or Dialect only.
	for _, f := range goodFiles() {
		for _, format := range formats {
			for _, d := range append(anyDialects(), impl.Dialect{Notes: "!", Seps: "="}, impl.Dialect{Notes: "#", Seps: ":"}) {
				if other := (impl.File{Format: format, Dialect: d, Recs: f.Recs}); !sameFile(other, f) && !sameFile(other, impl.Parse(format, d, impl.Print(f))) {
					checkFileOk(t, other, false)
				}
			}
		}
	}
}

// changed is the file with another record at an index.
func changed(f impl.File, i int, change func(rec *impl.Rec)) impl.File {
	f.Recs = slices.Clone(f.Recs)
	change(&f.Recs[i])
	return f
}

func TestFileOkFields(t *testing.T) {
	for _, f := range goodFiles() {
		checkFileOk(t, f, true)
		for i, rec := range f.Recs {
			for _, kind := range append(noKinds, recKinds...) {
				checkFileOk(t, changed(f, i, func(rec *impl.Rec) { rec.Kind = kind }), kind == rec.Kind)
			}
			for _, text := range []string{"", "s", "t", "a", "A", "1", " ", "\x00", "\xff", "$", rec.Section + " ", rec.Key + "\x00", rec.Value + "\n"} {
				checkFileOk(t, changed(f, i, func(rec *impl.Rec) { rec.Section = text }), text == rec.Section)
				checkFileOk(t, changed(f, i, func(rec *impl.Rec) { rec.Key = text }), text == rec.Key)
				checkFileOk(t, changed(f, i, func(rec *impl.Rec) { rec.Value = text }), text == rec.Value)
			}
			for _, line := range []int{0, 1, 2, rec.Line + 1, rec.Line - 1, -rec.Line, rec.Line + 1<<32, math.MinInt, math.MaxInt} {
				checkFileOk(t, changed(f, i, func(rec *impl.Rec) { rec.Line = line }), line == rec.Line)
			}
			for _, raw := range []string{"", rec.Raw + rec.Raw, rec.Raw + "\n\n", "\n\n" + rec.Raw} {
				checkFileOk(t, changed(f, i, func(rec *impl.Rec) { rec.Raw = raw }), false)
			}
		}
	}
}

// TestFileOkRaws: another Raw may be that of the same record.
func TestFileOkRaws(t *testing.T) {
	d := dialect("iqe", impl.JoMark)
	for _, c := range []struct {
		format int
		raws   []string
		others []string
	}{
		{impl.FmIni, []string{"a=1\n", "a=1", "a = 1\r", " a: \"1\" # b\r\n", "a=\\\n1"}, []string{"a=2\n", "b=1\n", "a\n", "#a=1\n", "[a]=1\n", "a=1\n\n", "a=1\nb", "a=\\1\n", ""}},
		{impl.FmProps, []string{"a=1\n", "a=1", "a 1\r", "\ta : 1\r\n", "a=\\\n1", "\\u0061=\\1"}, []string{"a=2\n", "b=1\n", "a\n", "#a=1\n", "a=1 # b\n", "a=1\n\n", "a=1\nb", "a=\\u1\n", ""}},
		{impl.FmEnv, []string{"a=1\n", "a=1", " export a = '1' # b\r", "a=\"1\"\r\n"}, []string{"a=2\n", "b=1\n", "a\n", "#a=1\n", "a:1\n", "a=1\n\n", "a=1\nb", "a='1\n", ""}},
	} {
		pair := impl.Rec{Kind: impl.RkPair, Key: "a", Value: "1", Line: 1}
		f := impl.Parse(c.format, d, "")
		for _, raw := range c.raws {
			pair.Raw = raw
			f.Recs = []impl.Rec{pair}
			checkFileOk(t, f, true)
		}
		for _, raw := range c.others {
			pair.Raw = raw
			f.Recs = []impl.Rec{pair}
			checkFileOk(t, f, false)
		}
	}
}

func withRecs(f impl.File, list []impl.Rec) impl.File {
	f.Recs = list
	return f
}

// TestFileOkPlaces: a record too many, too few or in another place.
func TestFileOkPlaces(t *testing.T) {
	for _, f := range goodFiles() {
		last := len(f.Recs) - 1
		for i, rec := range f.Recs {
			for _, more := range []impl.Rec{{}, {Line: 1}, {Kind: impl.RkOdd}, rec, f.Recs[0], f.Recs[last], {Raw: "\n"}, {Kind: impl.RkNote, Raw: "#\n", Line: rec.Line}} {
				list := slices.Insert(slices.Clone(f.Recs), i, more)
				checkFileOk(t, withRecs(f, list), false)
				// With the Lines as they should be, it may be a file.
				list = impl.Numbered(list)
				checkFileOk(t, withRecs(f, list), sameFile(withRecs(f, list), impl.Parse(f.Format, f.Dialect, impl.RawOf(list))))
			}
			if i < last {
				checkFileOk(t, withRecs(f, slices.Delete(slices.Clone(f.Recs), i, i+1)), false)
			}
			// A file may end behind any record that is ended itself.
			checkFileOk(t, withRecs(f, f.Recs[:i]), true)
			if i > 0 {
				checkFileOk(t, withRecs(f, f.Recs[i:]), false)
			}
			for j := range i {
				list := slices.Clone(f.Recs)
				list[i], list[j] = list[j], list[i]
				checkFileOk(t, withRecs(f, list), false)
				list[i].Line, list[j].Line = list[j].Line, list[i].Line
				checkFileOk(t, withRecs(f, list), sameFile(withRecs(f, list), impl.Parse(f.Format, f.Dialect, impl.RawOf(list))))
			}
		}
		checkFileOk(t, withRecs(f, append(slices.Clone(f.Recs), impl.Rec{})), false)
		checkFileOk(t, withRecs(f, append(slices.Clone(f.Recs), impl.Rec{Line: last + 2})), false)
		checkFileOk(t, withRecs(f, append(slices.Clone(f.Recs), f.Recs...)), false)
	}
}

// TestFileOkBounds: the records have the right bytes together, but not each of them.
func TestFileOkBounds(t *testing.T) {
	for _, f := range goodFiles() {
		for i, rec := range f.Recs {
			for at := range len(rec.Raw) + 1 {
				first, second := rec, rec
				first.Raw, second.Raw = rec.Raw[:at], rec.Raw[at:]
				second.Line += len(impl.SplitLines(first.Raw))
				checkFileOk(t, withRecs(f, slices.Concat(f.Recs[:i], []impl.Rec{first, second}, f.Recs[i+1:])), false)
			}
			if i == 0 {
				continue
			}
			before := f.Recs[i-1]
			both := before.Raw + rec.Raw
			for _, one := range []impl.Rec{before, rec, {Kind: impl.RkOdd, Section: before.Section}} {
				one.Raw, one.Line = both, before.Line
				checkFileOk(t, withRecs(f, slices.Concat(f.Recs[:i-1], []impl.Rec{one}, f.Recs[i+1:])), false)
			}
			for at := range len(both) + 1 {
				first, second := before, rec
				first.Raw, second.Raw = both[:at], both[at:]
				checkFileOk(t, withRecs(f, slices.Concat(f.Recs[:i-1], []impl.Rec{first, second}, f.Recs[i+1:])), at == len(before.Raw))
			}
		}
	}
}

func TestFileOkMaxText(t *testing.T) {
	for _, format := range formats {
		f := impl.Parse(format, dialect("", impl.JoNone), "")
		half := strings.Repeat("v", impl.MaxText/2-len("a=\n"))
		first := impl.Rec{Kind: impl.RkPair, Raw: "a=" + half + "\n", Key: "a", Value: half, Line: 1}
		second := impl.Rec{Kind: impl.RkPair, Raw: "b=" + half + "\n", Key: "b", Value: half, Line: 2}
		checkFileOk(t, withRecs(f, []impl.Rec{first, second}), true)
		for _, more := range []impl.Rec{{Raw: "\n", Line: 3}, {Kind: impl.RkNote, Raw: "#", Line: 3}} {
			checkFileOk(t, withRecs(f, []impl.Rec{first, second, more}), false)
		}
		second.Raw, second.Value = "b="+half+"v\n", half+"v"
		checkFileOk(t, withRecs(f, []impl.Rec{first, second}), false)
		second.Raw = "b=" + half + "v"
		checkFileOk(t, withRecs(f, []impl.Rec{first, second}), true)
		checkFileOk(t, withRecs(f, slices.Repeat([]impl.Rec{first}, 1000)), false)
	}
}

func checkPrint(t *testing.T, f impl.File, want string) {
	t.Helper()
	if got := impl.Print(f); got != want {
		t.Errorf("Print(%+v) = %q, want %q", f, got, want)
	}
}

func TestPrint(t *testing.T) {
	checkPrint(t, impl.File{}, "")
	for _, format := range append(noFormats, formats...) {
		for _, d := range anyDialects() {
			f := impl.File{Format: format, Dialect: d}
			checkPrint(t, f, "")
			checkPrint(t, withRecs(f, []impl.Rec{{}}), "")
			checkPrint(t, withRecs(f, rawRecs("b", "a\r", "\n", "", "\x00\xff", "\u00e9\n", "a=1")), "ba\r\n\x00\xff\u00e9\na=1")
			checkPrint(t, withRecs(f, []impl.Rec{{Kind: impl.RkPair, Section: "s", Key: "k", Value: "v", Line: 3}}), "")
		}
		checkPrint(t, withRecs(impl.File{Format: format}, rawRecs(strings.Repeat("a\n", impl.MaxText), "b")), strings.Repeat("a\n", impl.MaxText)+"b")
	}
	for raws := range listsOf([]string{"", "a=1\n", "\r", "\n", "#", "\xff"}, 4) {
		checkPrint(t, impl.File{Recs: rawRecs(raws...)}, strings.Join(raws, ""))
	}
}
