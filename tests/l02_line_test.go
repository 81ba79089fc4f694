package tests

import (
	"slices"
	"strings"
	"testing"

	"loop.example/g00727/impl"
)

// linesOf makes lines of each Text and the End that follows it.
func linesOf(parts ...string) []impl.Line {
	var list []impl.Line
	for i := 0; i < len(parts); i += 2 {
		list = append(list, impl.Line{Text: parts[i], End: parts[i+1]})
	}
	return list
}

func linesWith(texts []string, ends []string) []impl.Line {
	var list []impl.Line
	for _, text := range texts {
		for _, end := range ends {
			list = append(list, impl.Line{Text: text, End: end})
		}
	}
	return list
}

// linesBackwards finds the lines of s from its last byte to its first, unlike
// the program.
func linesBackwards(s string) []impl.Line {
	var list []impl.Line
	line := impl.Line{}
	for i := len(s) - 1; i >= 0; i-- {
		isEnd := s[i] == 10 || s[i] == 13
		inEnd := s[i] == 13 && line.Text == "" && line.End == "\n"
		if isEnd && !inEnd {
			if line != (impl.Line{}) {
				list = append(list, line)
			}
			line = impl.Line{End: s[i : i+1]}
		} else if isEnd {
			line.End = "\r\n"
		} else {
			line.Text = s[i:i+1] + line.Text
		}
	}
	if line != (impl.Line{}) {
		list = append(list, line)
	}
	slices.Reverse(list)
	return list
}

// areLines tells by looking at the lines alone, without joining them.
func areLines(list []impl.Line) bool {
	for i, line := range list {
		last := i == len(list)-1
		hasEnd := line.End == "\n" || line.End == "\r" || line.End == "\r\n"
		isOpen := last && line.End == "" && line.Text != ""
		if strings.ContainsAny(line.Text, "\r\n") || !hasEnd && !isOpen {
			return false
		}
		if line.End == "\r" && !last && list[i+1].Text == "" && list[i+1].End == "\n" {
			return false
		}
	}
	return true
}

func TestSplitLines(t *testing.T) {
	cases := []struct {
		s    string
		want []impl.Line
	}{
		{"", nil},
		{"a", linesOf("a", "")},
		{"\n", linesOf("", "\n")},
		{"\r", linesOf("", "\r")},
		{"\r\n", linesOf("", "\r\n")},
		{"a\n", linesOf("a", "\n")},
		{"a\r", linesOf("a", "\r")},
		{"a\r\n", linesOf("a", "\r\n")},
		{"\na", linesOf("", "\n", "a", "")},
		{"\ra", linesOf("", "\r", "a", "")},
		{"\r\na", linesOf("", "\r\n", "a", "")},
		{"a\rb", linesOf("a", "\r", "b", "")},
		{"a\rb\n", linesOf("a", "\r", "b", "\n")},
		{"\n\n", linesOf("", "\n", "", "\n")},
		{"\r\r", linesOf("", "\r", "", "\r")},
		{"\n\r", linesOf("", "\n", "", "\r")},
		{"\r\r\n", linesOf("", "\r", "", "\r\n")},
		{"\r\n\r", linesOf("", "\r\n", "", "\r")},
		{"\r\n\n", linesOf("", "\r\n", "", "\n")},
		{"\n\r\n", linesOf("", "\n", "", "\r\n")},
		{"\r\n\r\n", linesOf("", "\r\n", "", "\r\n")},
		{"\r\r\r\n\n\r", linesOf("", "\r", "", "\r", "", "\r\n", "", "\n", "", "\r")},
		{"a = 1\r\n\r\n# b\rc\\\n d", linesOf("a = 1", "\r\n", "", "\r\n", "# b", "\r", "c\\", "\n", " d", "")},
		{" \n\t", linesOf(" ", "\n", "\t", "")},
		{"\x00\n\x00", linesOf("\x00", "\n", "\x00", "")},
		{"\x00", linesOf("\x00", "")},
		{"\v\f\x1c", linesOf("\v\f\x1c", "")},
		{"\u0085\u2028\u2029", linesOf("\u0085\u2028\u2029", "")},
		{"\x85\x8a\x8d", linesOf("\x85\x8a\x8d", "")},
		{"\u010a\u010d\n", linesOf("\u010a\u010d", "\n")},
		{"\xff\r\xc3\r\n\xe2\x80\n\xfe", linesOf("\xff", "\r", "\xc3", "\r\n", "\xe2\x80", "\n", "\xfe", "")},
		{"\u00e9\r\n\U0001f600", linesOf("\u00e9", "\r\n", "\U0001f600", "")},
		{`a\nb\r`, linesOf(`a\nb\r`, "")},
	}
	for _, c := range cases {
		if got := impl.SplitLines(c.s); !slices.Equal(got, c.want) {
			t.Errorf("SplitLines(%q) = %q, want %q", c.s, got, c.want)
		}
	}
}

func TestJoinedLinesYieldTheFile(t *testing.T) {
	for s := range textsOf("a\r\n\x00\xff", 6) {
		list := impl.SplitLines(s)
		if want := linesBackwards(s); !slices.Equal(list, want) {
			t.Errorf("SplitLines(%q) = %q, want %q", s, list, want)
		}
		if got := impl.JoinLines(list); got != s {
			t.Errorf("the lines of %q join to %q", s, got)
		}
		if !impl.LinesOk(list) {
			t.Errorf("LinesOk of the lines of %q is false", s)
		}
	}
	for b := range 256 {
		s := "x" + string([]byte{byte(b)}) + "y"
		if got := len(impl.SplitLines(s)); (got == 2) != (b == 10 || b == 13) {
			t.Errorf("%q has %d lines", s, got)
		}
	}
}

func TestJoinLines(t *testing.T) {
	cases := []struct {
		list []impl.Line
		want string
	}{
		{nil, ""}, {[]impl.Line{}, ""}, {linesOf("", ""), ""}, {linesOf("", "", "", ""), ""},
		{linesOf("a", "\n"), "a\n"}, {linesOf("a", "\r\n", "b", ""), "a\r\nb"},
		{linesOf("", "\r", "", "\n"), "\r\n"},
		{linesOf("a", "", "", "", "b", ""), "ab"},
		{linesOf("a\nb", "xy", "\r", "\n\r"), "a\nbxy\r\n\r"},
		{linesOf("\x00", "\x00", "\xc3", "\xa9", "\xff", "\xfe"), "\x00\x00\u00e9\xff\xfe"},
	}
	for _, c := range cases {
		if got := impl.JoinLines(c.list); got != c.want {
			t.Errorf("JoinLines(%q) = %q, want %q", c.list, got, c.want)
		}
	}
}

func TestLinesOk(t *testing.T) {
	cases := []struct {
		list []impl.Line
		want bool
	}{
		{nil, true}, {[]impl.Line{}, true},
		{linesOf("a", ""), true}, {linesOf("", "\n"), true}, {linesOf("", "\r"), true}, {linesOf("", "\r\n"), true},
		{linesOf("a", "\r\n", "", "\r", "b", "\n", "c", ""), true},
		{linesOf("", "\r", "", "\r\n"), true}, {linesOf("", "\n", "", "\r"), true}, {linesOf("", "\r", "a", "\n"), true},
		{linesOf("\x00\xff", "\n", "\xc3", ""), true},

		{linesOf("", ""), false}, {linesOf("a", "\n", "", ""), false},
		{linesOf("a\nb", ""), false}, {linesOf("a\rb", "\n"), false}, {linesOf("a\r\nb", "\n"), false},
		{linesOf("a\n", ""), false}, {linesOf("a\r", "\n"), false}, {linesOf("\na", "\n"), false},
		{linesOf("a", "x"), false}, {linesOf("", "x"), false}, {linesOf("a", "\n\r"), false}, {linesOf("a", "\n\n"), false},
		{linesOf("a", "\r\r\n"), false}, {linesOf("a", "\x00"), false}, {linesOf("a", "\u0085"), false}, {linesOf("a", "\nb"), false},
		{linesOf("a", "", "b", ""), false}, {linesOf("a", "", "b", "\n"), false}, {linesOf("a", "", "", "\n"), false},
		{linesOf("", "", "b", "\n"), false},
		{linesOf("a", "\r", "", "\n"), false}, {linesOf("a", "\r", "\nb", ""), false}, {linesOf("a", "\r", "", "\n", "b", ""), false},
	}
	for _, c := range cases {
		if got := impl.LinesOk(c.list); got != c.want {
			t.Errorf("LinesOk(%q) = %v", c.list, got)
		}
	}
}

func TestLinesOkOfAllShortLists(t *testing.T) {
	lines := linesWith([]string{"", "a", "\xff", "\r", "\n", "a\n"}, []string{"", "\n", "\r", "\r\n", "\n\r", "x"})
	for list := range listsOf(lines, 3) {
		if got := impl.LinesOk(list); got != areLines(list) {
			t.Errorf("LinesOk(%q) = %v", list, got)
		}
	}
}

func TestLinesAreRecovered(t *testing.T) {
	lines := linesWith([]string{"", "a", "\x00"}, []string{"\n", "\r", "\r\n"})
	for list := range listsOf(lines, 4) {
		if !areLines(list) {
			continue
		}
		if got := impl.SplitLines(impl.JoinLines(list)); !slices.Equal(got, list) {
			t.Errorf("the lines %q are recovered as %q", list, got)
		}
		open := append(slices.Clone(list), impl.Line{Text: "b"})
		if got := impl.SplitLines(impl.JoinLines(open)); !slices.Equal(got, open) {
			t.Errorf("the lines %q are recovered as %q", open, got)
		}
	}
}

func TestEndOf(t *testing.T) {
	cases := []struct{ s, want string }{
		{"", "\n"}, {"a", "\n"}, {"\xff\x00", "\n"},
		{"a\n", "\n"}, {"a\r", "\r"}, {"a\r\n", "\r\n"}, {"\r", "\r"}, {"\r\nb", "\r\n"},
		{"a\nb\rc\r", "\r"}, {"a\r\nb\nc\n", "\n"}, {"\n\r\n\r\n", "\r\n"}, {"\r\r\r\n", "\r"},
		{"a\nb\r\n", "\n"}, {"a\r\nb\n", "\r\n"}, {"a\rb\r\nc\n", "\r"}, {"\n\r", "\n"},
		{"a\nb\r\nc\r\nd\n", "\n"}, {"a\r\nb\nc\nd\r\n", "\r\n"}, {"a\rb\nc\nd\r\ne\r\n", "\n"},
	}
	for _, c := range cases {
		if got := impl.EndOf(impl.SplitLines(c.s)); got != c.want {
			t.Errorf("EndOf the lines of %q = %q, want %q", c.s, got, c.want)
		}
	}
}

func TestEndOfListsThatAreNoLines(t *testing.T) {
	cases := []struct {
		list []impl.Line
		want string
	}{
		{nil, "\n"}, {[]impl.Line{}, "\n"}, {linesOf("", ""), "\n"}, {linesOf("a", "", "b", "", "c\r", ""), "\n"},
		{linesOf("a", "", "b", "", "c", "\r"), "\r"}, {linesOf("a", "\r\n", "b", "", "c", ""), "\r\n"},
		{linesOf("a", "x"), "x"}, {linesOf("a", "\n", "b", "x", "", "x"), "x"}, {linesOf("a", "x", "b", "\n"), "x"},
		{linesOf("", "\n", "", "\n\n", "", "\n\n"), "\n\n"},
		{linesOf("", "\xff", "", "\xfe", "", "\xfe"), "\xfe"}, {linesOf("", "\x00", "", "\n"), "\x00"},
	}
	for _, c := range cases {
		if got := impl.EndOf(c.list); got != c.want {
			t.Errorf("EndOf(%q) = %q, want %q", c.list, got, c.want)
		}
	}
}

// TestEndOfOrder: the same list yields the same End however the map in EndOf is laid out.
func TestEndOfOrder(t *testing.T) {
	count := func(list []impl.Line, end string) int {
		n := 0
		for _, line := range list {
			if line.End == end {
				n++
			}
		}
		return n
	}
	for list := range listsOf(linesWith([]string{"a"}, []string{"", "\n", "\r", "\r\n", "x"}), 5) {
		got := impl.EndOf(list)
		at := slices.IndexFunc(list, func(line impl.Line) bool { return line.End == got })
		if at < 0 && (got != "\n" || count(list, "") < len(list)) || got == "" {
			t.Fatalf("EndOf(%q) = %q", list, got)
		}
		for i, line := range list {
			other := count(list, line.End)
			if line.End != "" && (other > count(list, got) || other == count(list, got) && i < at) {
				t.Errorf("EndOf(%q) = %q", list, got)
			}
		}
	}
}

func TestTail(t *testing.T) {
	cases := []struct {
		s    string
		want int
	}{
		{"", 0}, {"a", 0}, {`\`, 1}, {`\\`, 2}, {`\\\`, 3}, {`a\`, 1}, {`a\\`, 2}, {`a\\\`, 3},
		{`\a`, 0}, {`\\a`, 0}, {`\a\`, 1}, {`\\a\\\b\\`, 2}, {`\ `, 0}, {"\\\n", 0}, {"\\\r\n", 0}, {`a/`, 0}, {`\\/`, 0},
		{"\x00\\", 1}, {"\\\x00", 0}, {"\xff\\\\", 2}, {"\\\xff", 0}, {"\xc3\\", 1}, {"\u00e9\\\\\\", 3}, {"\\\u00e9", 0},
		{"\xdc", 0}, {"\u015c", 0}, {"\uff3c", 0}, {"\uff3c\\", 1},
	}
	for _, c := range cases {
		if got := impl.Tail(c.s); got != c.want {
			t.Errorf("Tail(%q) = %d, want %d", c.s, got, c.want)
		}
	}
	for s := range textsOf("\\a\x00\xff\n", 5) {
		n := impl.Tail(s)
		if n < 0 || !strings.HasSuffix(s, strings.Repeat(`\`, n)) || strings.HasSuffix(s, strings.Repeat(`\`, n+1)) {
			t.Errorf("Tail(%q) = %d", s, n)
		}
	}
}

// TestFilesOfAnyLength: chapter 2 limits no length; MaxText binds the files of later chapters.
func TestFilesOfAnyLength(t *testing.T) {
	const n = 3 * impl.MaxText
	long := strings.Repeat("ab\r\n\r", n)
	list := impl.SplitLines(long)
	if len(list) != 2*n || impl.JoinLines(list) != long || !impl.LinesOk(list) {
		t.Errorf("a long file has %d lines", len(list))
	}
	if got := impl.EndOf(list); got != "\r\n" {
		t.Errorf("EndOf a long file = %q", got)
	}
	wide := strings.Repeat("a", n)
	if got := impl.SplitLines(wide + "\n"); !slices.Equal(got, linesOf(wide, "\n")) {
		t.Errorf("a long line is %d lines", len(got))
	}
	if got := impl.Tail(strings.Repeat(`\`, n)); got != n {
		t.Errorf("Tail of %d backslashes = %d", n, got)
	}
}

func TestLineListsAreNotChanged(t *testing.T) {
	for s := range textsOf("a\r\nx", 4) {
		whole := append(impl.SplitLines(s), linesOf("spare", "\r", "x", "x")...)
		before := slices.Clone(whole)
		list := whole[:len(whole)-2]
		impl.JoinLines(list)
		impl.LinesOk(list)
		impl.EndOf(list)
		impl.LinesOk(whole)
		impl.EndOf(whole)
		if !slices.Equal(whole, before) {
			t.Fatalf("the lines of %q became %q", s, whole)
		}
	}
}

func TestLinesShareNothing(t *testing.T) {
	const s = "a\nb\r\nc\rd"
	list, same := impl.SplitLines(s), impl.SplitLines(s)
	want := slices.Clone(same)
	list = list[:cap(list)]
	for i := range list {
		list[i] = impl.Line{Text: "changed", End: "changed"}
	}
	if !slices.Equal(same, want) || !slices.Equal(impl.SplitLines(s), want) {
		t.Errorf("SplitLines keeps what its caller changed: %q", same)
	}
	for text := range textsOf("a\n", 7) {
		list := impl.SplitLines(text)
		one := append(list, impl.Line{Text: "one"})
		two := append(list, impl.Line{Text: "two"})
		if one[len(list)].Text != "one" || two[len(list)].Text != "two" {
			t.Errorf("two lists made from the lines of %q share a line", text)
		}
	}
}
