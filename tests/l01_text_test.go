package tests

import (
	"fmt"
	"math/rand"
	"slices"
	"strings"
	"testing"
	"unsafe"

	"loop.example/g00172/impl"
)

const maxText = 2000
const maxLines = 100

func TestNumbersOfTheDocument(t *testing.T) {
	codes := []int64{impl.OK, impl.ErrForm, impl.ErrMany, impl.ErrRange, impl.ErrNone, impl.ErrText, impl.ErrClash, impl.ErrTaken, impl.ErrBusy, impl.ErrDown}
	for number, code := range codes {
		if code != int64(number) {
			t.Errorf("code %d is told as %d", number, code)
		}
	}
	if impl.MaxText != maxText || impl.MaxLines != maxLines {
		t.Errorf("MaxText %d, MaxLines %d", impl.MaxText, impl.MaxLines)
	}
}

// textsWithLines: texts and the lines that the document sees in them.
func textsWithLines() []struct {
	text  string
	lines []string
} {
	return []struct {
		text  string
		lines []string
	}{
		{"", nil},
		{"\n", []string{"\n"}},
		{"\n\n", []string{"\n", "\n"}},
		{"a", []string{"a"}},
		{"a\n", []string{"a\n"}},
		{"a\nb", []string{"a\n", "b"}},
		{"a\nb\n", []string{"a\n", "b\n"}},
		{"\na", []string{"\n", "a"}},
		{"a\n\nb\n", []string{"a\n", "\n", "b\n"}},
		{"a\n\n", []string{"a\n", "\n"}},
		{"a\r\nb\r", []string{"a\r\n", "b\r"}},
		{"\x00\n\x00", []string{"\x00\n", "\x00"}},
		{"\xff\n\xc3\n\u2028\n", []string{"\xff\n", "\xc3\n", "\u2028\n"}},
		{" \n\t\n", []string{" \n", "\t\n"}},
	}
}

func TestPromise2TextsAreTheirLinesJoined(t *testing.T) {
	for _, c := range textsWithLines() {
		if code := impl.TextFault(c.text); code != impl.OK {
			t.Errorf("TextFault(%q) = %d", c.text, code)
		}
		split := impl.SplitLines(c.text)
		if split.Code != impl.OK || !slices.Equal(split.Lines, c.lines) {
			t.Errorf("SplitLines(%q) = %d %q, want %q", c.text, split.Code, split.Lines, c.lines)
		}
		if code := impl.LinesFault(c.lines); code != impl.OK {
			t.Errorf("LinesFault(%q) = %d", c.lines, code)
		}
		join := impl.JoinLines(c.lines)
		if join.Code != impl.OK || join.Text != c.text {
			t.Errorf("JoinLines(%q) = %d %q, want %q", c.lines, join.Code, join.Text, c.text)
		}
	}
}

// listsOver: every list of at most length of the parts.
func listsOver(parts []string, length int) [][]string {
	lists := [][]string{nil}
	from := 0
	for range length {
		to := len(lists)
		for _, list := range lists[from:to] {
			for _, part := range parts {
				lists = append(lists, append(slices.Clone(list), part))
			}
		}
		from = to
	}
	return lists
}

func TestPromise2EverySmallText(t *testing.T) {
	for _, parts := range listsOver([]string{"a", "\n", "\x00"}, 7) {
		text := strings.Join(parts, "")
		split := impl.SplitLines(text)
		want := strings.SplitAfter(text, "\n")
		if want[len(want)-1] == "" {
			want = want[:len(want)-1]
		}
		if split.Code != impl.OK || !slices.Equal(split.Lines, want) {
			t.Fatalf("SplitLines(%q) = %d %q, want %q", text, split.Code, split.Lines, want)
		}
		if join := impl.JoinLines(split.Lines); join.Code != impl.OK || join.Text != text {
			t.Fatalf("JoinLines(%q) = %d %q", split.Lines, join.Code, join.Text)
		}
		if binary := impl.IsBinary(text); binary != slices.Contains(parts, "\x00") {
			t.Fatalf("IsBinary(%q) = %v", text, binary)
		}
	}
}

// Of small lists just those have no fault that a text has as its lines.
func TestPromise2EverySmallList(t *testing.T) {
	parts := []string{"", "\n", "a", "a\n", "a\nb", "\na", "\n\n", "a\nb\n"}
	for _, lines := range listsOver(parts, 4) {
		text := strings.Join(lines, "")
		var wantCode int64 = impl.OK
		if !slices.Equal(impl.SplitLines(text).Lines, lines) {
			wantCode, text = impl.ErrForm, ""
		}
		if code := impl.LinesFault(lines); code != wantCode {
			t.Fatalf("LinesFault(%q) = %d, want %d", lines, code, wantCode)
		}
		if join := impl.JoinLines(lines); join.Code != wantCode || join.Text != text {
			t.Fatalf("JoinLines(%q) = %d %q, want %d %q", lines, join.Code, join.Text, wantCode, text)
		}
	}
}

func TestTextsAtTheirBounds(t *testing.T) {
	cases := []struct {
		name  string
		text  string
		code  int64
		count int
	}{
		{"MaxText bytes in one line", strings.Repeat("a", maxText), impl.OK, 1},
		{"MaxText bytes, the last a line feed", strings.Repeat("a", maxText-1) + "\n", impl.OK, 1},
		{"one byte more", strings.Repeat("a", maxText+1), impl.ErrMany, 0},
		{"one byte more, a line feed", strings.Repeat("a", maxText) + "\n", impl.ErrMany, 0},
		{"MaxText bytes that are no runes", strings.Repeat("\xff", maxText), impl.OK, 1},
		{"fewer runes than MaxText, more bytes", strings.Repeat("\u00e4", maxText/2+1), impl.ErrMany, 0},
		{"MaxLines lines", strings.Repeat("\n", maxLines), impl.OK, maxLines},
		{"MaxLines lines, the last without line feed", strings.Repeat("\n", maxLines-1) + "a", impl.OK, maxLines},
		{"one line more", strings.Repeat("\n", maxLines+1), impl.ErrMany, 0},
		{"one line more, without line feed", strings.Repeat("\n", maxLines) + "a", impl.ErrMany, 0},
		{"both at their bounds", strings.Repeat(strings.Repeat("a", 19)+"\n", maxLines), impl.OK, maxLines},
		{"both beyond", strings.Repeat("\n", maxText+1), impl.ErrMany, 0},
		{"far beyond", strings.Repeat("a\n", 500000), impl.ErrMany, 0},
	}
	for _, c := range cases {
		if code := impl.TextFault(c.text); code != c.code {
			t.Errorf("%s: TextFault = %d, want %d", c.name, code, c.code)
		}
		split := impl.SplitLines(c.text)
		if split.Code != c.code || len(split.Lines) != c.count {
			t.Errorf("%s: SplitLines = %d, %d lines, want %d, %d lines", c.name, split.Code, len(split.Lines), c.code, c.count)
		}
		if c.code == impl.OK && impl.JoinLines(split.Lines).Text != c.text {
			t.Errorf("%s: the lines joined are another text", c.name)
		}
	}
}

func TestWrongLines(t *testing.T) {
	long := strings.Repeat("a", maxText)
	cases := []struct {
		name  string
		lines []string
		code  int64
	}{
		{"nil", nil, impl.OK},
		{"an empty list", []string{}, impl.OK},
		{"an empty line alone", []string{""}, impl.ErrForm},
		{"an empty line first", []string{"", "a\n"}, impl.ErrForm},
		{"an empty line last", []string{"a\n", ""}, impl.ErrForm},
		{"a line feed first", []string{"\na"}, impl.ErrForm},
		{"a line feed within", []string{"a\nb\n"}, impl.ErrForm},
		{"two line feeds", []string{"\n\n"}, impl.ErrForm},
		{"a line feed within the last line", []string{"a\n", "b\nc"}, impl.ErrForm},
		{"no line feed, not last", []string{"a", "b\n"}, impl.ErrForm},
		{"no line feed but at the last", []string{"a\n", "b"}, impl.OK},
		{"MaxLines lines", slices.Repeat([]string{"\n"}, maxLines), impl.OK},
		{"one line more", slices.Repeat([]string{"\n"}, maxLines+1), impl.ErrMany},
		{"MaxText bytes in one line", []string{long}, impl.OK},
		{"MaxText bytes in two lines", []string{long[:maxText-2] + "\n", "a"}, impl.OK},
		{"one byte more in one line", []string{long + "a"}, impl.ErrMany},
		{"one byte more in two lines", []string{long[:maxText-1] + "\n", "a"}, impl.ErrMany},
		{"two lines, each too long", []string{long + "a", long + "a"}, impl.ErrMany},
		{"too many lines ahead of empty ones", make([]string, maxLines+1), impl.ErrMany},
		{"too many bytes ahead of an empty line", []string{"", long + "a"}, impl.ErrMany},
		{"too many bytes ahead of a line feed within", []string{"a\nb", long}, impl.ErrMany},
		{"too many bytes ahead of a missing line feed", []string{"a", long}, impl.ErrMany},
		{"MaxLines empty lines", make([]string, maxLines), impl.ErrForm},
		{"MaxText bytes with a line feed within", []string{"\n" + long[1:]}, impl.ErrForm},
	}
	for _, c := range cases {
		if code := impl.LinesFault(c.lines); code != c.code {
			t.Errorf("%s: LinesFault = %d, want %d", c.name, code, c.code)
		}
		wantText := ""
		if c.code == impl.OK {
			wantText = strings.Join(c.lines, "")
		}
		if join := impl.JoinLines(c.lines); join.Code != c.code || join.Text != wantText {
			t.Errorf("%s: JoinLines = %d %q, want %d", c.name, join.Code, join.Text, c.code)
		}
	}
}

func TestIsBinary(t *testing.T) {
	long := strings.Repeat("a", 3*maxText)
	for _, text := range []string{"\x00", "a\x00", "\x00a", "a\n\x00\n", long + "\x00", "\xff\x00"} {
		if !impl.IsBinary(text) {
			t.Errorf("IsBinary is false of a text of %d bytes with a byte 0", len(text))
		}
	}
	for _, text := range []string{"", "0", "\n", "\x01", "\xff", "\\0", long, "\u0100"} {
		if impl.IsBinary(text) {
			t.Errorf("IsBinary is true of a text of %d bytes without a byte 0", len(text))
		}
	}
}

// digestByHand reckons with the remainder of each product apart, in numbers too wide to wrap round.
func digestByHand(text string) int64 {
	h := int64(7)
	for _, b := range []byte(text) {
		h = h*131 + int64(b)
		h -= h / 65521 * 65521
	}
	return h
}

func TestDigestOf(t *testing.T) {
	known := map[string]int64{"": 7, "a": 7*131 + 97, "\x00": 7 * 131, "\xff": 7*131 + 255, "\n": 7*131 + 10, "ab": 1014*131 + 98 - 2*65521}
	for text, want := range known {
		if got := impl.DigestOf(text); got != want {
			t.Errorf("DigestOf(%q) = %d, want %d", text, got, want)
		}
	}
	if impl.DigestOf("ab") == impl.DigestOf("ba") {
		t.Error("DigestOf does not hang on the order of bytes")
	}
	random := rand.New(rand.NewSource(1))
	for length := range 3 * maxText {
		if length > 50 && length%97 != 0 {
			continue
		}
		text := make([]byte, length)
		for i := range text {
			text[i] = byte(random.Intn(256))
		}
		for _, text := range []string{string(text), strings.Repeat("\xff", length)} {
			if got, want := impl.DigestOf(text), digestByHand(text); got != want {
				t.Fatalf("DigestOf of %d bytes = %d, want %d", length, got, want)
			}
		}
	}
}

func TestSameLines(t *testing.T) {
	many := slices.Repeat([]string{"a"}, 3*maxLines)
	cases := []struct {
		a, b []string
		same bool
	}{
		{nil, nil, true},
		{nil, []string{}, true},
		{[]string{}, nil, true},
		{nil, []string{""}, false},
		{[]string{"a\n"}, nil, false},
		{[]string{"a\n", "b"}, []string{"a\n", "b"}, true},
		{[]string{"a\n", "b"}, []string{"a\n", "b\n"}, false},
		{[]string{"a\n", "b\n"}, []string{"b\n", "a\n"}, false},
		{[]string{"a\n"}, []string{"a\n", "a\n"}, false},
		{[]string{"a\n", "a\n"}, []string{"a\n"}, false},
		{[]string{"x\n", "b"}, []string{"a\n", "b"}, false},
		{[]string{"a\n", "x\n", "b"}, []string{"a\n", "y\n", "b"}, false},
		{[]string{"ab"}, []string{"a", "b"}, false},
		{[]string{"", ""}, []string{"", ""}, true},
		{[]string{"a\nb", ""}, []string{"a\nb", ""}, true},
		{many, slices.Clone(many), true},
		{many, many[1:], false},
	}
	for _, c := range cases {
		if got := impl.SameLines(c.a, c.b); got != c.same {
			t.Errorf("SameLines(%q, %q) = %v", c.a, c.b, got)
		}
	}
}

// anyTexts and anyLists: arguments of every kind, with and without faults.
func anyTexts() []string {
	texts := []string{strings.Repeat("a", maxText), strings.Repeat("a", maxText+1), strings.Repeat("\n", maxLines), strings.Repeat("\n", maxLines+1), strings.Repeat("\x00\n\xff", 100000)}
	for _, c := range textsWithLines() {
		texts = append(texts, c.text)
	}
	return texts
}

func anyLists() [][]string {
	lists := [][]string{{}, {""}, {"a", "b"}, {"\na"}, make([]string, 100000), slices.Repeat([]string{"\n"}, maxLines), {strings.Repeat("a", maxText+1)}}
	for _, c := range textsWithLines() {
		lists = append(lists, c.lines)
	}
	return lists
}

// tellAll: what all functions of the chapter answer to these arguments, in words.
func tellAll(text string, lines []string, others []string) string {
	return fmt.Sprintf("%d %+v %+v %d %v %d %v", impl.TextFault(text), impl.SplitLines(text), impl.JoinLines(lines), impl.LinesFault(lines), impl.IsBinary(text), impl.DigestOf(text), impl.SameLines(lines, others))
}

func TestPromise1AnswersHangOnTheArgumentsAlone(t *testing.T) {
	texts, lists := anyTexts(), anyLists()
	tell := func(i int) string {
		lines, others := lists[i%len(lists)], lists[(i*7+1)%len(lists)]
		return tellAll(strings.Clone(texts[i]), slices.Clone(lines), slices.Clone(others))
	}
	answers := make([]string, len(texts))
	for i := range texts {
		answers[i] = tell(i)
	}
	// Backwards each call stands behind other ones than before.
	for i := len(texts) - 1; i >= 0; i-- {
		if tell(i) != answers[i] {
			t.Errorf("text %d: another answer at the second call", i)
		}
	}
}

func TestPromise1NoArgumentIsChanged(t *testing.T) {
	lists := anyLists()
	for i, lines := range lists {
		others := lists[(i+1)%len(lists)]
		// What lies behind a list in its memory is not the function's either.
		wide := append(slices.Clone(lines), "behind")
		given := wide[:len(lines)]
		keptLines, keptOthers := slices.Clone(wide), slices.Clone(others)
		impl.LinesFault(given)
		impl.JoinLines(given)
		impl.SameLines(given, others)
		impl.SameLines(others, given)
		if !slices.Equal(wide, keptLines) || !slices.Equal(others, keptOthers) {
			t.Errorf("list %d was changed", i)
		}
	}
}

// sharesBytes: whether two texts have a byte of memory in common.
func sharesBytes(a string, b string) bool {
	if a == "" || b == "" {
		return false
	}
	startA, startB := uintptr(unsafe.Pointer(unsafe.StringData(a))), uintptr(unsafe.Pointer(unsafe.StringData(b)))
	return startA < startB+uintptr(len(b)) && startB < startA+uintptr(len(a))
}

func TestPromise1AnswersAreNewMemory(t *testing.T) {
	for _, c := range textsWithLines() {
		split, again := impl.SplitLines(c.text), impl.SplitLines(c.text)
		for i, line := range split.Lines {
			if sharesBytes(line, c.text) {
				t.Errorf("SplitLines(%q): line %d is a piece of the argument", c.text, i)
			}
			split.Lines[i] = "changed"
		}
		if !slices.Equal(again.Lines, c.lines) || !slices.Equal(impl.SplitLines(c.text).Lines, c.lines) {
			t.Errorf("SplitLines(%q): two answers share their list", c.text)
		}
		join := impl.JoinLines(c.lines)
		for i, line := range c.lines {
			if sharesBytes(line, join.Text) {
				t.Errorf("JoinLines(%q): the text has the memory of line %d", c.lines, i)
			}
		}
	}
}

func TestPromise1ACodeStandsAlone(t *testing.T) {
	for _, text := range anyTexts() {
		if r := impl.SplitLines(text); r.Code != impl.TextFault(text) || r.Code != impl.OK && r.Lines != nil {
			t.Errorf("SplitLines of %d bytes: code %d with %d lines", len(text), r.Code, len(r.Lines))
		}
	}
	for _, lines := range anyLists() {
		if r := impl.JoinLines(lines); r.Code != impl.LinesFault(lines) || r.Code != impl.OK && r.Text != "" {
			t.Errorf("JoinLines of %d lines: code %d with %d bytes", len(lines), r.Code, len(r.Text))
		}
	}
}
