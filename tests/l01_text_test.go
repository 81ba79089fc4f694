package tests

import (
	"slices"
	"strings"
	"testing"

	"loop.example/g00727/impl"
)

func TestMaxText(t *testing.T) {
	if impl.MaxText != 6000 {
		t.Errorf("MaxText = %d", impl.MaxText)
	}
}

func TestTrim(t *testing.T) {
	cases := [][2]string{
		{"", ""}, {"a", "a"}, {" ", ""}, {"\t", ""}, {" \t \t\t  ", ""},
		{" a", "a"}, {"a ", "a"}, {"\ta\t", "a"}, {" \ta b\t ", "a b"}, {"  a \t b  ", "a \t b"},
		{"\na", "\na"}, {"\n a \n", "\n a \n"}, {" a\r\n", "a\r\n"}, {"\v\fa\f\v", "\v\fa\f\v"},
		{" \x00 ", "\x00"}, {"\x00 a", "\x00 a"}, {" \u00a0a\u00a0 ", "\u00a0a\u00a0"}, {" \u2003 ", "\u2003"},
		{" \x85\t", "\x85"}, {"\t\xa0 ", "\xa0"}, {" \xff a \xc3 ", "\xff a \xc3"}, {"\xe2\x80 ", "\xe2\x80"},
	}
	for _, c := range cases {
		if got := impl.Trim(c[0]); got != c[1] {
			t.Errorf("Trim(%q) = %q, want %q", c[0], got, c[1])
		}
	}
}

func TestTrimmedHasNoBlanksAtItsEnds(t *testing.T) {
	for s := range textsOf(" \ta\n\x00\xa0", 5) {
		got := impl.Trim(s)
		at := strings.Index(s, got)
		if at < 0 {
			t.Fatalf("Trim(%q) = %q, which is no part of it", s, got)
		}
		if got == "" {
			at = len(s)
		}
		removed := s[:at] + s[min(len(s), at+len(got)):]
		if strings.Trim(removed, " \t") != "" || len(removed)+len(got) != len(s) {
			t.Errorf("Trim(%q) = %q removes more than blanks", s, got)
		}
		if got != "" && (strings.ContainsAny(got[:1], " \t") || strings.ContainsAny(got[len(got)-1:], " \t")) {
			t.Errorf("Trim(%q) = %q has blanks at its ends", s, got)
		}
	}
}

func TestCutAt(t *testing.T) {
	cases := []struct {
		s, any, before, after string
		ok                    bool
	}{
		{"a:b=c", "=:", "a", "b=c", true}, {"a:b=c", "=", "a:b", "c", true}, {"a==b", "=", "a", "=b", true},
		{"=a", "=", "", "a", true}, {"a=", "=", "a", "", true}, {"=", "=", "", "", true}, {"==", "=", "", "=", true},
		{"abc", "", "abc", "", false}, {"", "", "", "", false}, {"", "=", "", "", false}, {"abc", "=:", "abc", "", false},
		{"a\x00b", "\x00", "a", "b", true}, {"ab", "\x00", "ab", "", false},
		{"a\nb", "\n", "a", "b", true},
		{"\u00e9x", "\xa9", "\xc3", "x", true},    // the second byte of a sign
		{"\u00e9x", "\u00e8", "", "\xa9x", true},  // two signs with the same first byte
		{"a\xffb", "\xff", "a", "b", true},        // no valid UTF-8
		{"a\xffb", "\xfe", "a\xffb", "", false},   // two invalid bytes that differ
		{"a\xffb", "\ufffd", "a\xffb", "", false}, // the sign that stands for invalid bytes
		{"a\ufffdb", "\xff", "a\ufffdb", "", false},
	}
	for _, c := range cases {
		before, after, ok := impl.CutAt(c.s, c.any)
		if before != c.before || after != c.after || ok != c.ok {
			t.Errorf("CutAt(%q, %q) = %q, %q, %v", c.s, c.any, before, after, ok)
		}
	}
}

func TestCutPartsJoin(t *testing.T) {
	for _, any := range []string{"", "=", ":=", "\x80", "\xc3\x80", "\x00", "\xff\xff"} {
		for s := range textsOf("a=:\x00\x80\xc3\xff", 4) {
			before, after, ok := impl.CutAt(s, any)
			for i := range len(before) {
				if strings.Contains(any, before[i:i+1]) {
					t.Errorf("CutAt(%q, %q): %q", s, any, before)
				}
			}
			if !ok {
				if before != s || after != "" {
					t.Errorf("CutAt(%q, %q) = %q, %q, false", s, any, before, after)
				}
				continue
			}
			if len(before) >= len(s) {
				t.Fatalf("CutAt(%q, %q) = %q, %q, true", s, any, before, after)
			}
			cut := s[len(before) : len(before)+1]
			if before+cut+after != s || !strings.Contains(any, cut) {
				t.Errorf("CutAt(%q, %q) = %q, %q, true", s, any, before, after)
			}
		}
	}
}

func TestSplitAt(t *testing.T) {
	cases := []struct {
		s    string
		sep  byte
		want []string
	}{
		{"", ',', nil}, {"", 0, nil}, {"a", ',', []string{"a"}}, {"abc", 'b', []string{"a", "c"}},
		{",", ',', []string{"", ""}}, {",,", ',', []string{"", "", ""}},
		{",a", ',', []string{"", "a"}}, {"a,", ',', []string{"a", ""}}, {"a,,b,", ',', []string{"a", "", "b", ""}},
		{" a , b ", ',', []string{" a ", " b "}}, {"a\nb\n", '\n', []string{"a", "b", ""}},
		{"a\x00b", 0, []string{"a", "b"}}, {"ab", 0, []string{"ab"}},
		{"\u00e9\u00e9", 0xa9, []string{"\xc3", "\xc3", ""}}, {"a\xe9b", 0xe9, []string{"a", "b"}},
		{"a\u00ffb", 0xff, []string{"a\u00ffb"}}, {"\xff\xfe\xff", 0xff, []string{"", "\xfe", ""}},
	}
	for _, c := range cases {
		if got := impl.SplitAt(c.s, c.sep); !slices.Equal(got, c.want) {
			t.Errorf("SplitAt(%q, %d) = %q, want %q", c.s, c.sep, got, c.want)
		}
	}
}

func TestJoinedPartsAreRecovered(t *testing.T) {
	for _, sep := range []byte{',', ' ', 0, '\n', 0x80, 0xff} {
		one := string([]byte{sep})
		for s := range textsOf("a, \x00\x80\xc3\xff\n", 4) {
			list := impl.SplitAt(s, sep)
			if strings.Join(list, one) != s || s != "" && len(list) != strings.Count(s, one)+1 {
				t.Errorf("SplitAt(%q, %d) = %q", s, sep, list)
			}
			for _, part := range list {
				if strings.Contains(part, one) {
					t.Errorf("SplitAt(%q, %d): %q", s, sep, part)
				}
			}
		}
	}
	lists := [][]string{{"a"}, {"a", "b"}, {"", ""}, {"", "a", ""}, {"x y", "", "\x00", "\xff\u00e9"}}
	for _, list := range lists {
		if got := impl.SplitAt(strings.Join(list, ";"), ';'); !slices.Equal(got, list) {
			t.Errorf("the parts %q are recovered as %q", list, got)
		}
	}
}

func TestWords(t *testing.T) {
	cases := []struct {
		s    string
		want []string
	}{
		{"", nil}, {" ", nil}, {"\t", nil}, {" \t  \t", nil}, {"a", []string{"a"}},
		{" a\tbc  d", []string{"a", "bc", "d"}}, {"a b ", []string{"a", "b"}}, {"\ta", []string{"a"}},
		{"a\nb c\r\n", []string{"a\nb", "c\r\n"}}, {"a\vb\fc", []string{"a\vb\fc"}}, {"\n", []string{"\n"}},
		{"a\u00a0b \u2003", []string{"a\u00a0b", "\u2003"}}, {"a\x85b\xa0c", []string{"a\x85b\xa0c"}},
		{"\x00 \x00\x00", []string{"\x00", "\x00\x00"}}, {"\xff\t\xc3 \xe2\x80", []string{"\xff", "\xc3", "\xe2\x80"}},
	}
	for _, c := range cases {
		if got := impl.Words(c.s); !slices.Equal(got, c.want) {
			t.Errorf("Words(%q) = %q, want %q", c.s, got, c.want)
		}
	}
}

func TestJoinedWordsAreRecovered(t *testing.T) {
	words := []string{"a", "b\nc", "\x00", "\xff\xc3", "\u00e9"}
	for _, gap := range []string{" ", "\t", "  ", " \t "} {
		for _, end := range []string{"", gap} {
			s := end + strings.Join(words, gap) + end
			if got := impl.Words(s); !slices.Equal(got, words) {
				t.Errorf("Words(%q) = %q", s, got)
			}
		}
	}
	for s := range textsOf(" \ta\n\xa0", 5) {
		var want []string
		for _, part := range strings.Split(strings.ReplaceAll(s, "\t", " "), " ") {
			if part != "" {
				want = append(want, part)
			}
		}
		if got := impl.Words(s); !slices.Equal(got, want) {
			t.Errorf("Words(%q) = %q, want %q", s, got, want)
		}
	}
}

func TestBefore(t *testing.T) {
	ascending := []string{
		"", "\x00", "\x00\x00", "\x01", " ", "1", "10", "2", "Z", "a", "a\x00", "a ", "aa", "ab", "b",
		"\x7f", "\x80", "\xc3", "\u00e9", "\xc3\xff", "\uffff", "\U00010000", "\xff", "\xff\x00", "\xff\xff",
	}
	for i, a := range ascending {
		for j, b := range ascending {
			if got := impl.Before(a, b); got != (i < j) {
				t.Errorf("Before(%q, %q) = %v", a, b, got)
			}
		}
	}
}

// TestTextsOfAnyLength: chapter 1 limits no length; MaxText binds the files of later chapters.
func TestTextsOfAnyLength(t *testing.T) {
	const n = 3 * impl.MaxText
	long := strings.Repeat("a ", n)
	if got := impl.Trim(long); got != long[:len(long)-1] {
		t.Errorf("Trim of a long text has %d bytes", len(got))
	}
	if got := impl.Words(long); len(got) != n || got[n-1] != "a" {
		t.Errorf("Words of a long text are %d", len(got))
	}
	if got := impl.SplitAt(long, ' '); len(got) != n+1 || got[n] != "" {
		t.Errorf("SplitAt of a long text returns %d", len(got))
	}
	if before, after, ok := impl.CutAt(long+"=b", "="); before != long || after != "b" || !ok {
		t.Errorf("CutAt of a long text: %d bytes, %q, %v", len(before), after, ok)
	}
	if !impl.Before(long, long+"a") || impl.Before(long, long) {
		t.Error("Before of long texts")
	}
}

func TestResultsShareNothing(t *testing.T) {
	const s = "a b,c d"
	list, same := impl.SplitAt(s, ','), impl.SplitAt(s, ',')
	words, sameWords := impl.Words(s), impl.Words(s)
	for _, l := range [][]string{list, words} {
		l = l[:cap(l)]
		for i := range l {
			l[i] = "changed"
		}
	}
	if !slices.Equal(same, []string{"a b", "c d"}) || !slices.Equal(impl.SplitAt(s, ','), same) {
		t.Errorf("SplitAt keeps what its caller changed: %q", same)
	}
	if !slices.Equal(sameWords, []string{"a", "b,c", "d"}) || !slices.Equal(impl.Words(s), sameWords) {
		t.Errorf("Words keeps what its caller changed: %q", sameWords)
	}
}
