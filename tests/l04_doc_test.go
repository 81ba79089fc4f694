package tests

import (
	"fmt"
	"math"
	"slices"
	"strings"
	"testing"

	"loop.example/g00727/impl"
)

var recKinds = []int{impl.RkBlank, impl.RkNote, impl.RkHead, impl.RkPair, impl.RkOdd}

var noKinds = []int{-1, 5, 6, 100, 256 + impl.RkPair, 1<<32 + impl.RkHead, 1<<32 + impl.RkOdd, -impl.RkPair, -impl.RkOdd, math.MinInt, math.MaxInt}

func headRec(section string) impl.Rec {
	return impl.Rec{Kind: impl.RkHead, Raw: "[" + section + "]\n", Section: section}
}

func pairRec(section string, key string) impl.Rec {
	return impl.Rec{Kind: impl.RkPair, Raw: key + "=v\n", Section: section, Key: key, Value: "v"}
}

func oddRec(line int) impl.Rec { return impl.Rec{Kind: impl.RkOdd, Raw: "?\n", Line: line} }

// rawRecs makes records of the kinds in turn, with Lines that are wrong.
func rawRecs(raws ...string) []impl.Rec {
	var list []impl.Rec
	for i, raw := range raws {
		list = append(list, impl.Rec{Kind: recKinds[i%len(recKinds)], Raw: raw, Section: "s", Key: "k", Value: "v", Line: 1000 - 7*i})
	}
	return list
}

// recsOf makes a record of every kind, also of none, with each of the fields.
func recsOf(sections []string, keys []string) []impl.Rec {
	var list []impl.Rec
	for _, kind := range append([]int{-1, 5}, recKinds...) {
		for _, section := range sections {
			for _, key := range keys {
				list = append(list, impl.Rec{Kind: kind, Raw: "r\n", Section: section, Key: key, Value: "v", Line: 10*kind + len(key)})
			}
		}
	}
	return list
}

func linesOfRecs(list []impl.Rec) []int {
	var lines []int
	for _, rec := range list {
		lines = append(lines, rec.Line)
	}
	return lines
}

// withoutLines is what Numbered must keep.
func withoutLines(list []impl.Rec) []impl.Rec {
	kept := slices.Clone(list)
	for i := range kept {
		kept[i].Line = 0
	}
	return kept
}

func checkOddLines(t *testing.T, list []impl.Rec, want []int) {
	t.Helper()
	if got := impl.OddLines(list); !slices.Equal(got, want) {
		t.Errorf("OddLines(%#v) = %v, want %v", list, got, want)
	}
}

func checkLastOf(t *testing.T, list []impl.Rec, section string, key string, want int) {
	t.Helper()
	if got := impl.LastOf(list, section, key); got != want {
		t.Errorf("LastOf(%#v, %q, %q) = %d, want %d", list, section, key, got, want)
	}
}

func checkSections(t *testing.T, list []impl.Rec, want []string) {
	t.Helper()
	if got := impl.Sections(list); !slices.Equal(got, want) {
		t.Errorf("Sections(%#v) = %q, want %q", list, got, want)
	}
}

func checkNumbered(t *testing.T, list []impl.Rec, want []int) {
	t.Helper()
	got := impl.Numbered(list)
	if !slices.Equal(linesOfRecs(got), want) {
		t.Errorf("Numbered(%#v) has the Lines %v, want %v", list, linesOfRecs(got), want)
	}
	if !slices.Equal(withoutLines(got), withoutLines(list)) {
		t.Errorf("Numbered(%#v) = %#v: more than Line is changed", list, got)
	}
}

func TestRecordConstants(t *testing.T) {
	if got := []int{impl.RkBlank, impl.RkNote, impl.RkHead, impl.RkPair, impl.RkOdd, impl.MaxRecs}; !slices.Equal(got, []int{0, 1, 2, 3, 4, 200}) {
		t.Errorf("the constants are %v", got)
	}
}

func TestNoRecords(t *testing.T) {
	for _, list := range [][]impl.Rec{nil, {}, make([]impl.Rec, 0, 3)} {
		if got := impl.RawOf(list); got != "" {
			t.Errorf("RawOf of none = %q", got)
		}
		checkOddLines(t, list, nil)
		checkLastOf(t, list, "", "", -1)
		checkLastOf(t, list, "s", "k", -1)
		checkSections(t, list, nil)
		checkNumbered(t, list, nil)
	}
}

func TestRawOf(t *testing.T) {
	cases := []struct {
		raws []string
		want string
	}{
		{[]string{""}, ""}, {[]string{"", "", ""}, ""}, {[]string{"a"}, "a"}, {[]string{"a\n"}, "a\n"}, {[]string{"a\\\n b\n"}, "a\\\n b\n"},
		{[]string{"\n", "# n\r\n", "[s]\r", "k = v\n", "?"}, "\n# n\r\n[s]\rk = v\n?"},
		{[]string{"a", "b", "", "c"}, "abc"}, {[]string{"b", "a", "b"}, "bab"}, {[]string{"a\r", "\nb"}, "a\r\nb"},
		{[]string{"\x00", "\x00\n"}, "\x00\x00\n"}, {[]string{"\xff\xfe", "\x80"}, "\xff\xfe\x80"}, {[]string{"\xc3", "\xa9"}, "\u00e9"}, {[]string{"\u00e9\n", "\U0001f600"}, "\u00e9\n\U0001f600"},
	}
	for _, c := range cases {
		if got := impl.RawOf(rawRecs(c.raws...)); got != c.want {
			t.Errorf("RawOf the Raws %q = %q, want %q", c.raws, got, c.want)
		}
	}
	for _, kind := range append(noKinds, recKinds...) {
		list := []impl.Rec{{Kind: kind, Raw: "a\n", Section: "s", Key: "k", Value: "v", Line: 3}, {Kind: kind, Raw: "b", Line: -1}}
		if got := impl.RawOf(list); got != "a\nb" {
			t.Errorf("RawOf records of Kind %d = %q", kind, got)
		}
	}
}

func TestRawOfAllShortLists(t *testing.T) {
	for raws := range listsOf([]string{"", "a", "\r", "\n", "b\r\n", "\x00", "\xff"}, 4) {
		if got, want := impl.RawOf(rawRecs(raws...)), strings.Join(raws, ""); got != want {
			t.Errorf("RawOf the Raws %q = %q, want %q", raws, got, want)
		}
	}
}

func TestOddLines(t *testing.T) {
	cases := []struct {
		list []impl.Rec
		want []int
	}{
		{[]impl.Rec{oddRec(7)}, []int{7}}, {[]impl.Rec{oddRec(0)}, []int{0}}, {[]impl.Rec{oddRec(-4)}, []int{-4}}, {[]impl.Rec{oddRec(math.MinInt), oddRec(math.MaxInt)}, []int{math.MinInt, math.MaxInt}},
		{[]impl.Rec{oddRec(1), oddRec(2), oddRec(3)}, []int{1, 2, 3}}, {[]impl.Rec{oddRec(9), oddRec(2), oddRec(5)}, []int{9, 2, 5}}, {[]impl.Rec{oddRec(3), oddRec(3), oddRec(1), oddRec(3)}, []int{3, 3, 1, 3}},
		{[]impl.Rec{{Kind: impl.RkOdd, Raw: "a\nb\n", Section: "s", Key: "k", Value: "v", Line: 12}}, []int{12}}, {[]impl.Rec{{Kind: impl.RkOdd}}, []int{0}},
		{[]impl.Rec{{Kind: impl.RkBlank, Line: 1}, {Kind: impl.RkNote, Line: 2}, {Kind: impl.RkHead, Line: 3}, {Kind: impl.RkPair, Line: 4}, {Kind: impl.RkOdd, Line: 5}}, []int{5}},
		{[]impl.Rec{oddRec(8), {Kind: impl.RkBlank, Line: 1}, oddRec(6), {Kind: impl.RkPair, Line: 2}, {Kind: impl.RkHead, Line: 9}, oddRec(7)}, []int{8, 6, 7}},
		{[]impl.Rec{{Kind: impl.RkOdd, Raw: "\x00\xff", Section: "\xff", Line: 2}}, []int{2}}, {[]impl.Rec{{Line: 1}, {Kind: impl.RkPair, Line: 2}}, nil},
	}
	for _, c := range cases {
		checkOddLines(t, c.list, c.want)
	}
	for _, kind := range append(noKinds, impl.RkBlank, impl.RkNote, impl.RkHead, impl.RkPair) {
		other := impl.Rec{Kind: kind, Raw: "?\n", Line: 3}
		checkOddLines(t, []impl.Rec{other}, nil)
		checkOddLines(t, []impl.Rec{other, oddRec(4), other, oddRec(2)}, []int{4, 2})
	}
}

func TestLastOf(t *testing.T) {
	list := []impl.Rec{
		pairRec("", "a"), pairRec("", "b"), headRec("s"), pairRec("s", "a"), pairRec("s", "b"), pairRec("s", "a"), headRec("t"),
		pairRec("t", "c"), headRec("s"), pairRec("s", "a"), pairRec("s", ""), headRec("u"), {Kind: impl.RkOdd, Section: "s", Key: "a"},
	}
	cases := []struct {
		section, key string
		want         int
	}{
		{"", "a", 0}, {"", "b", 1}, {"s", "a", 9}, {"s", "b", 4}, {"t", "c", 7}, {"s", "", 10},
		{"", "c", -1}, {"t", "a", -1}, {"s", "c", -1}, {"u", "", -1}, {"u", "a", -1}, {"", "", -1}, {"x", "a", -1}, {"a", "s", -1},
		{"S", "a", -1}, {"s", "A", -1}, {"s ", "a", -1}, {"s", " a", -1}, {"s", "aa", -1}, {"s", "a\x00", -1}, {"sa", "", -1}, {"", "sa", -1},
	}
	for _, c := range cases {
		checkLastOf(t, list, c.section, c.key, c.want)
	}
}

func TestLastOfEmptySectionAndKey(t *testing.T) {
	checkLastOf(t, []impl.Rec{{Kind: impl.RkPair}}, "", "", 0)
	checkLastOf(t, []impl.Rec{{Kind: impl.RkPair}, {}, {Kind: impl.RkPair, Value: "v"}, {Kind: impl.RkHead}, {Kind: impl.RkNote}, {Kind: impl.RkOdd}}, "", "", 2)
	checkLastOf(t, []impl.Rec{{}, {Kind: impl.RkNote}, {Kind: impl.RkHead}, {Kind: impl.RkOdd}}, "", "", -1)
	checkLastOf(t, []impl.Rec{pairRec("", ""), pairRec("s", ""), pairRec("", "k")}, "", "", 0)
}

func TestLastOfOtherKinds(t *testing.T) {
	for _, kind := range append(noKinds, impl.RkBlank, impl.RkNote, impl.RkHead, impl.RkOdd) {
		other := impl.Rec{Kind: kind, Raw: "k=v\n", Section: "s", Key: "k", Value: "v", Line: 1}
		checkLastOf(t, []impl.Rec{other}, "s", "k", -1)
		checkLastOf(t, []impl.Rec{other, pairRec("s", "k"), other, other}, "s", "k", 1)
		checkLastOf(t, []impl.Rec{other, pairRec("t", "k"), pairRec("s", "l")}, "s", "k", -1)
	}
}

func TestSections(t *testing.T) {
	cases := []struct {
		list []impl.Rec
		want []string
	}{
		{[]impl.Rec{headRec("s")}, []string{"s"}}, {[]impl.Rec{headRec("")}, []string{""}}, {[]impl.Rec{{Kind: impl.RkHead}, {Kind: impl.RkHead}}, []string{""}},
		{[]impl.Rec{headRec("b"), headRec("a"), headRec("c")}, []string{"b", "a", "c"}}, {[]impl.Rec{headRec("a"), headRec("a"), headRec("a")}, []string{"a"}},
		{[]impl.Rec{headRec("b"), headRec("a"), headRec("b"), headRec(""), headRec("a"), headRec("b"), headRec("c")}, []string{"b", "a", "", "c"}},
		{[]impl.Rec{pairRec("", "k"), headRec("s"), pairRec("s", "k"), pairRec("t", "k"), headRec("u")}, []string{"s", "u"}},
		{[]impl.Rec{pairRec("t", "k"), headRec("s"), headRec("t")}, []string{"s", "t"}}, {[]impl.Rec{pairRec("s", "k"), {Kind: impl.RkNote, Section: "s"}}, nil},
		{[]impl.Rec{headRec("s"), headRec("S"), headRec("s "), headRec(" s"), headRec("s")}, []string{"s", "S", "s ", " s"}},
		{[]impl.Rec{{Kind: impl.RkHead, Raw: "[x]\n", Section: "y", Key: "z", Value: "w", Line: 4}}, []string{"y"}},
	}
	for _, c := range cases {
		checkSections(t, c.list, c.want)
	}
	for _, kind := range append(noKinds, impl.RkBlank, impl.RkNote, impl.RkPair, impl.RkOdd) {
		other := impl.Rec{Kind: kind, Raw: "[o]\n", Section: "o", Line: 1}
		checkSections(t, []impl.Rec{other}, nil)
		checkSections(t, []impl.Rec{other, headRec("s"), other, headRec("o"), headRec("s")}, []string{"s", "o"})
	}
}

// TestAnyBytes: strings are compared bytewise, whether or not they are valid UTF-8.
func TestAnyBytes(t *testing.T) {
	texts := []string{"\x00", "\x00\x00", "\x80", "\xff", "\xfe", "\ufffd", "\xc3", "\xc3\xa9", "e\u0301", "\u00e9\x00", "\xed\xa0\x80", "\xf4\x90\x80\x80", "\U0001f600", "a\x00b", "a"}
	var heads, pairs []impl.Rec
	for _, text := range texts {
		heads = append(heads, headRec(text))
		pairs = append(pairs, pairRec(text, "k"), pairRec("s", text), pairRec(text, text))
	}
	checkSections(t, append(slices.Clone(heads), heads...), texts)
	for i, text := range texts {
		checkLastOf(t, pairs, text, "k", 3*i)
		checkLastOf(t, pairs, "s", text, 3*i+1)
		checkLastOf(t, pairs, text, text, 3*i+2)
		checkLastOf(t, pairs, text, text+"\x00", -1)
		checkLastOf(t, append(slices.Clone(heads), pairs[:1]...), text, "", -1)
	}
}

func TestNumbered(t *testing.T) {
	cases := []struct {
		raws []string
		want []int
	}{
		{[]string{""}, []int{1}}, {[]string{"a"}, []int{1}}, {[]string{"a\nb\nc\n"}, []int{1}},
		{[]string{"a\n", "b\r", "c\r\n", "d"}, []int{1, 2, 3, 4}}, {[]string{"\n", "\r", "\r\n", ""}, []int{1, 2, 3, 4}},
		{[]string{"a\\\nb\n", "c\n"}, []int{1, 3}}, {[]string{"a\\\rb\r", "c\r"}, []int{1, 3}}, {[]string{"a\\\r\nb\r\n", "c\r\n"}, []int{1, 3}},
		{[]string{"a\nb", "c"}, []int{1, 3}}, {[]string{"a\rb\nc\r\nd\n", "e\n \n\n", "f\r\r\n", "g"}, []int{1, 5, 8, 10}},
		{[]string{"a", "b", "c"}, []int{1, 2, 3}}, {[]string{"a", "\n", "b"}, []int{1, 2, 3}},
		{[]string{"", "a\n", "", "", "b"}, []int{1, 1, 2, 2, 2}}, {[]string{"", "", ""}, []int{1, 1, 1}},
		{[]string{"a\r", "\nb\n", "c"}, []int{1, 2, 4}}, {[]string{"\r", "\n", "\r\n", "\n"}, []int{1, 2, 3, 4}}, {[]string{"a\r", "", "\n", "b"}, []int{1, 2, 2, 3}}, {[]string{"a\n", "\rb", "c"}, []int{1, 2, 4}},
		{[]string{"\n\r", "a"}, []int{1, 3}}, {[]string{"\r\r\n", "a"}, []int{1, 3}}, {[]string{"\n\n\n\r\n\r\n", "a"}, []int{1, 6}},
		{[]string{"\x00\n\x00", "\xff\r\xfe\n", "\xc3", "\xa9"}, []int{1, 3, 5, 6}}, {[]string{"\u0085\u2028\v\f", "\x85\x8a\x8d\u010a\u010d", "a"}, []int{1, 2, 3}}, {[]string{`a\nb\r`, "c"}, []int{1, 2}},
	}
	for _, c := range cases {
		checkNumbered(t, rawRecs(c.raws...), c.want)
	}
}

func TestNumberedOfEveryKind(t *testing.T) {
	for _, kind := range append(noKinds, recKinds...) {
		list := []impl.Rec{
			{Kind: kind, Raw: "a\\\r\nb\n", Section: "s", Key: "k", Value: "v\nw\n", Line: 40},
			{Kind: kind, Raw: "c", Section: "\n\n", Key: "\n", Line: math.MaxInt},
			{Kind: kind, Value: "\n", Line: -3},
			{Kind: kind, Raw: "\n", Line: math.MinInt},
			{Kind: kind},
		}
		checkNumbered(t, list, []int{1, 3, 4, 4, 5})
		checkNumbered(t, impl.Numbered(list), []int{1, 3, 4, 4, 5})
	}
}

func TestNumberedOfAllShortLists(t *testing.T) {
	for raws := range listsOf([]string{"", "a", "\n", "\r", "\r\n", "\nb", "a\\\r\nb\r", "\x00\n\xff\n"}, 4) {
		want, line := []int(nil), 1
		for _, raw := range raws {
			want = append(want, line)
			line += len(linesBackwards(raw))
		}
		checkNumbered(t, rawRecs(raws...), want)
	}
}

// TestRecordsAreNumberedByTheirBytes: however the lines of a file are joined to
// records, each record has the number that its first line has in the file.
func TestRecordsAreNumberedByTheirBytes(t *testing.T) {
	for s := range textsOf("a\r\n\xff", 6) {
		lines := impl.SplitLines(s)
		for joins := range 1 << max(len(lines)-1, 0) {
			var raws []string
			var want []int
			for i, line := range lines {
				if i > 0 && joins>>(i-1)&1 == 1 {
					raws[len(raws)-1] += line.Text + line.End
					continue
				}
				raws = append(raws, line.Text+line.End)
				want = append(want, i+1)
			}
			list := rawRecs(raws...)
			checkNumbered(t, list, want)
			if got := impl.RawOf(impl.Numbered(list)); got != s {
				t.Errorf("the records %q of %q have the bytes %q", raws, s, got)
			}
		}
	}
}

func TestAllShortListsOfRecords(t *testing.T) {
	names := []string{"", "s"}
	for list := range listsOf(recsOf(names, names), 3) {
		var odd []int
		var sections []string
		last := map[[2]string]int{}
		for i, rec := range list {
			switch {
			case rec.Kind == 4:
				odd = append(odd, rec.Line)
			case rec.Kind == 3:
				last[[2]string{rec.Section, rec.Key}] = i + 1
			case rec.Kind == 2 && !slices.Contains(sections, rec.Section):
				sections = append(sections, rec.Section)
			}
		}
		checkOddLines(t, list, odd)
		checkSections(t, list, sections)
		for _, section := range names {
			for _, key := range names {
				checkLastOf(t, list, section, key, last[[2]string{section, key}]-1)
			}
		}
	}
}

// TestRecordListsOfAnyLength: chapter 4 limits no length; MaxRecs and MaxText bind the files of later chapters.
func TestRecordListsOfAnyLength(t *testing.T) {
	const n = 100 * impl.MaxRecs
	var list []impl.Rec
	for i := range n {
		list = append(list, headRec(fmt.Sprint("s", i)), pairRec("s", "k"), oddRec(i))
	}
	if got := len(impl.Sections(list)); got != n {
		t.Errorf("%d sections, want %d", got, n)
	}
	if got := impl.OddLines(list); len(got) != n || got[n-1] != n-1 {
		t.Errorf("%d odd lines, want %d", len(got), n)
	}
	if got := impl.LastOf(list, "s", "k"); got != 3*n-2 {
		t.Errorf("the last pair is at %d", got)
	}
	if got := impl.Numbered(list); len(got) != 3*n || got[3*n-1].Line != 3*n {
		t.Errorf("%d records are numbered", len(got))
	}
	if got := impl.RawOf(list); strings.Count(got, "\n") != 3*n {
		t.Errorf("the records have %d lines", strings.Count(got, "\n"))
	}
	long := strings.Repeat("a\r\n", n)
	if got := linesOfRecs(impl.Numbered(rawRecs(long, "b"))); !slices.Equal(got, []int{1, n + 1}) {
		t.Errorf("the Lines after a long record are %v", got)
	}
}

func callAll(list []impl.Rec) ([]int, []string, []impl.Rec) {
	impl.RawOf(list)
	impl.LastOf(list, "s", "k")
	return impl.OddLines(list), impl.Sections(list), impl.Numbered(list)
}

func TestRecordListsAreNotChanged(t *testing.T) {
	for list := range listsOf([]impl.Rec{headRec("s"), pairRec("s", "k"), oddRec(5), {Raw: "\r"}}, 3) {
		whole := append(slices.Clone(list), oddRec(8), pairRec("spare", "k"), headRec("spare"))
		before := slices.Clone(whole)
		for n := range len(whole) + 1 {
			callAll(whole[:n])
			if !slices.Equal(whole, before) {
				t.Fatalf("%#v became %#v", before, whole)
			}
		}
	}
}

func TestRecordListsShareNothing(t *testing.T) {
	list := []impl.Rec{headRec("s"), pairRec("s", "k"), oddRec(5), headRec("t"), oddRec(6)}
	before := slices.Clone(list)
	for n := range len(list) + 1 {
		odd, sections, numbered := callAll(list[:n])
		sameOdd, sameSections, sameNumbered := callAll(list[:n])
		keptOdd, keptSections, keptNumbered := slices.Clone(sameOdd), slices.Clone(sameSections), slices.Clone(sameNumbered)
		fill(odd[:cap(odd)], -1)
		fill(sections[:cap(sections)], "changed")
		fill(numbered[:cap(numbered)], impl.Rec{Raw: "changed"})
		if !slices.Equal(list, before) {
			t.Fatalf("changing what %d records yield changes the records: %#v", n, list)
		}
		fill(list, impl.Rec{Kind: impl.RkOdd, Raw: "changed\n\n", Line: -1})
		if !slices.Equal(sameOdd, keptOdd) || !slices.Equal(sameSections, keptSections) || !slices.Equal(sameNumbered, keptNumbered) {
			t.Errorf("changing %d records changes what they yielded: %v, %q, %#v", n, sameOdd, sameSections, sameNumbered)
		}
		copy(list, before)
	}
}

// TestNumberedOfPartOfAList: appending to the result is no way into the argument's spare capacity.
func TestNumberedOfPartOfAList(t *testing.T) {
	list := []impl.Rec{oddRec(5), pairRec("s", "k"), headRec("s")}
	before := slices.Clone(list)
	for n := range len(list) {
		numbered := append(impl.Numbered(list[:n]), impl.Rec{Raw: "changed"})
		if !slices.Equal(list, before) || numbered[n].Raw != "changed" {
			t.Fatalf("appending to %d numbered records changes the argument: %#v", n, list)
		}
	}
}
