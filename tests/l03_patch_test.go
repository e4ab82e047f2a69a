package tests

import (
	"fmt"
	"math"
	"math/rand"
	"regexp"
	"slices"
	"strconv"
	"strings"
	"testing"

	"loop.example/g00172/impl"
)

const maxContext = 5
const maxPatch = 8000

func TestNumbersOfPatches(t *testing.T) {
	if impl.MaxContext != maxContext || impl.MaxPatch != maxPatch {
		t.Errorf("MaxContext %d, MaxPatch %d", impl.MaxContext, impl.MaxPatch)
	}
}

func hunkOf(atA int64, atB int64, lines ...string) impl.Hunk {
	return impl.Hunk{AtA: atA, AtB: atB, Lines: lines}
}

func sameHunks(a []impl.Hunk, b []impl.Hunk) bool {
	return slices.EqualFunc(a, b, func(x impl.Hunk, y impl.Hunk) bool {
		return x.AtA == y.AtA && x.AtB == y.AtB && slices.Equal(x.Lines, y.Lines)
	})
}

func cloneHunks(hunks []impl.Hunk) []impl.Hunk {
	clones := slices.Clone(hunks)
	for i := range clones {
		clones[i].Lines = slices.Clone(clones[i].Lines)
	}
	return clones
}

// hunksByMarks lays both texts out as one list of marked lines, marks those near a change, and takes each run of these as a hunk.
func hunksByMarks(a []string, b []string, changes []impl.Change, context int) []impl.Hunk {
	type entry struct {
		line     string
		atA, atB int64
	}
	var all []entry
	i, j := int64(0), int64(0)
	add := func(mark string, line string, inA int64, inB int64) {
		all = append(all, entry{mark + line, i, j})
		i, j = i+inA, j+inB
	}
	for _, c := range append(slices.Clone(changes), impl.Change{AtA: int64(len(a)), AtB: int64(len(b))}) {
		for i < c.AtA {
			add(" ", a[i], 1, 1)
		}
		for i < c.AtA+c.DelA {
			add("-", a[i], 1, 0)
		}
		for j < c.AtB+c.InsB {
			add("+", b[j], 0, 1)
		}
	}
	isNear := func(at int) bool {
		around := all[max(at-context, 0):min(at+context+1, len(all))]
		return slices.ContainsFunc(around, func(e entry) bool { return e.line[0] != ' ' })
	}
	var hunks []impl.Hunk
	isOpen := false
	for at, e := range all {
		if isNear(at) {
			if !isOpen {
				hunks = append(hunks, hunkOf(e.atA, e.atB))
			}
			last := &hunks[len(hunks)-1]
			last.Lines = append(last.Lines, e.line)
		}
		isOpen = isNear(at)
	}
	return hunks
}

// patchByWords writes the hunks as the document tells it, without a look at their faults.
func patchByWords(hunks []impl.Hunk) string {
	text := ""
	for _, h := range hunks {
		counts := map[byte]int{}
		body := ""
		for _, line := range h.Lines {
			counts[line[0]]++
			if line[len(line)-1] == '\n' {
				body += line
			} else {
				body += line + "\n\\\n"
			}
		}
		text += fmt.Sprintf("@@ -%d,%d +%d,%d @@\n%s", h.AtA, counts[' ']+counts['-'], h.AtB, counts[' ']+counts['+'], body)
	}
	return text
}

// checkPatch holds promise 4 against these lines.
func checkPatch(t *testing.T, a []string, b []string, context int64) {
	t.Helper()
	told := impl.HunksOf(a, b, context)
	want := hunksByMarks(a, b, impl.ChangesOf(a, b).Changes, int(context))
	if told.Code != impl.OK || told.At != 0 || !sameHunks(told.Hunks, want) {
		t.Fatalf("HunksOf(%#v, %#v, %d) = %#v, want %#v", a, b, context, told, want)
	}
	if code := impl.HunksFault(told.Hunks); code != impl.OK {
		t.Fatalf("HunksFault(%#v) = %d", told.Hunks, code)
	}
	if r := impl.ApplyHunks(a, told.Hunks); r.Code != impl.OK || !slices.Equal(r.Lines, b) {
		t.Fatalf("ApplyHunks(%#v, %#v) = %#v, want %#v", a, told.Hunks, r, b)
	}
	back := impl.ReverseHunks(told.Hunks)
	if r := impl.ApplyHunks(b, back.Hunks); back.Code != impl.OK || back.At != 0 || r.Code != impl.OK || !slices.Equal(r.Lines, a) {
		t.Fatalf("turned round %#v is %#v, and makes %#v of %#v", told.Hunks, back, r, b)
	}
	if again := impl.ReverseHunks(back.Hunks); again.Code != impl.OK || !sameHunks(again.Hunks, told.Hunks) {
		t.Fatalf("turned round twice %#v is %#v", told.Hunks, again)
	}
	text := impl.FormatPatch(told.Hunks)
	if text.Code != impl.OK || text.Text != patchByWords(told.Hunks) {
		t.Fatalf("FormatPatch(%#v) = %#v", told.Hunks, text)
	}
	if r := impl.ParsePatch(text.Text); r.Code != impl.OK || r.At != 0 || !sameHunks(r.Hunks, told.Hunks) {
		t.Fatalf("ParsePatch(%#v) = %#v, want %#v", text.Text, r, told.Hunks)
	}
}

func TestPromise4EveryTwoSmallTexts(t *testing.T) {
	for _, lists := range [][][]string{smallTexts([]string{"a", "b"}, 4), smallTexts([]string{"a", "b", ""}, 3)} {
		for _, a := range lists {
			// Without its line feed an empty line is none.
			if slices.Contains(a, "") {
				continue
			}
			for _, b := range lists {
				if slices.Contains(b, "") {
					continue
				}
				for context := range int64(3) {
					checkPatch(t, a, b, context)
				}
			}
		}
	}
}

func TestPromise4LongTexts(t *testing.T) {
	random := rand.New(rand.NewSource(6))
	for round := range 300 {
		a := randomLines(random, 1+round%26, random.Intn(maxLines+1))
		b := slices.Clone(a)
		for range random.Intn(8) {
			at := random.Intn(len(b) + 1)
			switch random.Intn(9) {
			case 0:
				b = b[:at]
			case 1, 2, 3, 4:
				b = slices.Delete(b, at, min(at+1, len(b)))
			default:
				b = slices.Insert(b, at, "new "+strconv.Itoa(random.Intn(9))+"\n")
			}
		}
		if impl.LinesFault(b) != impl.OK {
			b = randomLines(random, 1+round%26, random.Intn(maxLines+1))
		}
		for context := range int64(maxContext + 1) {
			checkPatch(t, a, b, context)
		}
	}
}

// numbered: lines from the first number to the last.
func numbered(first int, last int) []string {
	var lines []string
	for i := first; i <= last; i++ {
		lines = append(lines, strconv.Itoa(i)+"\n")
	}
	return lines
}

func changedAt(lines []string, places ...int) []string {
	lines = slices.Clone(lines)
	for _, at := range places {
		lines[at] = "x" + lines[at]
	}
	return lines
}

func TestPromise4AtItsBounds(t *testing.T) {
	full := numbered(1, maxLines)
	everySecond := slices.Clone(full)
	for at := 0; at < maxLines; at += 2 {
		everySecond[at] = "x\n"
	}
	cut := changedAt(full, 3, 50)
	cut[maxLines-1] = "100"
	long := slices.Repeat([]string{strings.Repeat("a", 19) + "\n"}, maxLines)
	otherLong := slices.Repeat([]string{strings.Repeat("b", 19) + "\n"}, maxLines)
	lists := [][]string{nil, {}, {"\n"}, {"a"}, full, changedAt(full, 0), changedAt(full, maxLines-1), everySecond, cut, long, otherLong, {strings.Repeat("a", maxText)}, {strings.Repeat("b", maxText-1) + "\n"}}
	for _, a := range lists {
		for _, b := range lists {
			for context := range int64(maxContext + 1) {
				checkPatch(t, a, b, context)
			}
		}
	}
	if hunks := impl.HunksOf(full, everySecond, 0).Hunks; len(hunks) != maxLines/2 {
		t.Errorf("%d hunks where every second line is another", len(hunks))
	}
	if hunks := impl.HunksOf(long, otherLong, 5).Hunks; len(hunks) != 1 || len(hunks[0].Lines) != 2*maxLines {
		t.Errorf("%d hunks where all lines are others", len(hunks))
	}
}

func TestHunksOf(t *testing.T) {
	ten := numbered(0, 9)
	cases := []struct {
		name    string
		a, b    []string
		context int64
		hunks   []impl.Hunk
	}{
		{"both empty", nil, nil, 3, nil},
		{"the same", ten, slices.Clone(ten), 5, nil},
		{"nothing to one", nil, []string{"a"}, 5, []impl.Hunk{hunkOf(0, 0, "+a")}},
		{"one to nothing", []string{"a\n"}, []string{}, 5, []impl.Hunk{hunkOf(0, 0, "-a\n")}},
		{"the document's", linesOf("a b"), linesOf("a c"), 1, []impl.Hunk{hunkOf(0, 0, " a\n", "-b\n", "+c\n")}},
		{"no lines around", ten, changedAt(ten, 4), 0, []impl.Hunk{hunkOf(4, 4, "-4\n", "+x4\n")}},
		{"one line around", ten, changedAt(ten, 4), 1, []impl.Hunk{hunkOf(3, 3, " 3\n", "-4\n", "+x4\n", " 5\n")}},
		{"fewer ahead than context", ten, changedAt(ten, 1), 2, []impl.Hunk{hunkOf(0, 0, " 0\n", "-1\n", "+x1\n", " 2\n", " 3\n")}},
		{"none ahead", ten, changedAt(ten, 0), 2, []impl.Hunk{hunkOf(0, 0, "-0\n", "+x0\n", " 1\n", " 2\n")}},
		{"as many ahead as context", ten, changedAt(ten, 2), 2, []impl.Hunk{hunkOf(0, 0, " 0\n", " 1\n", "-2\n", "+x2\n", " 3\n", " 4\n")}},
		{"fewer behind than context", ten, changedAt(ten, 8), 2, []impl.Hunk{hunkOf(6, 6, " 6\n", " 7\n", "-8\n", "+x8\n", " 9\n")}},
		{"none behind", ten, changedAt(ten, 9), 2, []impl.Hunk{hunkOf(7, 7, " 7\n", " 8\n", "-9\n", "+x9\n")}},
		{"twice context between", ten, changedAt(ten, 2, 5), 1, []impl.Hunk{hunkOf(1, 1, " 1\n", "-2\n", "+x2\n", " 3\n", " 4\n", "-5\n", "+x5\n", " 6\n")}},
		{"one more between", ten, changedAt(ten, 2, 6), 1, []impl.Hunk{hunkOf(1, 1, " 1\n", "-2\n", "+x2\n", " 3\n"), hunkOf(5, 5, " 5\n", "-6\n", "+x6\n", " 7\n")}},
		{"one line between, no lines around", ten, changedAt(ten, 2, 4), 0, []impl.Hunk{hunkOf(2, 2, "-2\n", "+x2\n"), hunkOf(4, 4, "-4\n", "+x4\n")}},
		{"places shift behind lines that come", ten, slices.Concat([]string{"x\n", "y\n"}, changedAt(ten, 8)), 1, []impl.Hunk{hunkOf(0, 0, "+x\n", "+y\n", " 0\n"), hunkOf(7, 9, " 7\n", "-8\n", "+x8\n", " 9\n")}},
		{"places shift behind lines that go", ten, changedAt(ten[3:], 5), 1, []impl.Hunk{hunkOf(0, 0, "-0\n", "-1\n", "-2\n", " 3\n"), hunkOf(7, 4, " 7\n", "-8\n", "+x8\n", " 9\n")}},
		{"lines that go ahead of those that come", ten[:2], []string{"x\n", "y\n", "z"}, 5, []impl.Hunk{hunkOf(0, 0, "-0\n", "-1\n", "+x\n", "+y\n", "+z")}},
		{"no line feed on the old side", linesOf("a b/"), linesOf("a b"), 1, []impl.Hunk{hunkOf(0, 0, " a\n", "-b", "+b\n")}},
		{"no line feed on the new side", linesOf("a b"), linesOf("a b/"), 1, []impl.Hunk{hunkOf(0, 0, " a\n", "-b\n", "+b")}},
		{"no line feed on both sides, changed", linesOf("a b/"), linesOf("a c/"), 0, []impl.Hunk{hunkOf(1, 1, "-b", "+c")}},
		{"no line feed on both sides, the same", linesOf("a b/"), linesOf("c b/"), 1, []impl.Hunk{hunkOf(0, 0, "-a\n", "+c\n", " b")}},
	}
	for _, c := range cases {
		r := impl.HunksOf(c.a, c.b, c.context)
		if r.Code != impl.OK || r.At != 0 || !sameHunks(r.Hunks, c.hunks) {
			t.Errorf("%s: HunksOf = %#v, want %#v", c.name, r, c.hunks)
		}
		checkPatch(t, c.a, c.b, c.context)
	}
}

func TestHunksOfWrongArguments(t *testing.T) {
	wrong := []int64{math.MinInt64, math.MinInt64 + 1, -1, maxContext + 1, 1 << 62, math.MaxInt64}
	for _, context := range wrong {
		for _, b := range [][]string{nil, linesOf("a"), linesOf("a c")} {
			if r := impl.HunksOf(linesOf("a"), b, context); r.Code != impl.ErrRange || r.At != 0 || r.Hunks != nil {
				t.Errorf("HunksOf with context %d = %#v", context, r)
			}
		}
	}
	for name, one := range faultyLists() {
		for _, context := range append(wrong, 0, maxContext) {
			if r := impl.HunksOf(one.lines, linesOf("a"), context); r.Code != one.code || r.At != 0 || r.Hunks != nil {
				t.Errorf("%s in a, context %d: HunksOf = %#v", name, context, r)
			}
			if r := impl.HunksOf(linesOf("a"), one.lines, context); r.Code != one.code || r.At != 0 || r.Hunks != nil {
				t.Errorf("%s in b, context %d: HunksOf = %#v", name, context, r)
			}
		}
		for nameB, other := range faultyLists() {
			if r := impl.HunksOf(one.lines, other.lines, -1); r.Code != one.code {
				t.Errorf("%s in a, %s in b: HunksOf = %#v", name, nameB, r)
			}
		}
	}
}

func TestSizesOf(t *testing.T) {
	cases := []struct {
		name     string
		lines    []string
		code     int64
		old, new int64
	}{
		{"no lines", nil, impl.OK, 0, 0},
		{"an empty list", []string{}, impl.OK, 0, 0},
		{"one that stays", []string{" a\n"}, impl.OK, 1, 1},
		{"one that goes", []string{"-a\n"}, impl.OK, 1, 0},
		{"one that comes", []string{"+a\n"}, impl.OK, 0, 1},
		{"several", []string{" a\n", "-b\n", "-c\n", "+d\n", "+e\n", "+f\n", " g"}, impl.OK, 4, 5},
		{"without line feeds", []string{"-a", "+b", " c"}, impl.OK, 2, 2},
		{"a line feed alone behind", []string{"-\n", "+\n", " \n"}, impl.OK, 2, 2},
		{"marks behind marks", []string{"--\n", "+-\n", "  \n", "++"}, impl.OK, 2, 3},
		{"more lines than a hunk may have", slices.Repeat([]string{"-\n"}, 2*maxLines+1), impl.OK, 2*maxLines + 1, 0},
		{"far more, and long ones", slices.Repeat([]string{" " + strings.Repeat("a", 3*maxText)}, 5000), impl.OK, 5000, 5000},
		{"an empty line", []string{""}, impl.ErrForm, 0, 0},
		{"an empty line last", []string{"-a\n", ""}, impl.ErrForm, 0, 0},
		{"no mark", []string{"a\n"}, impl.ErrForm, 0, 0},
		{"a line feed first", []string{"\n"}, impl.ErrForm, 0, 0},
		{"a backslash first", []string{"\\\n"}, impl.ErrForm, 0, 0},
		{"a byte 0 first", []string{"\x00a\n"}, impl.ErrForm, 0, 0},
		{"a tabulator first", []string{"\ta\n"}, impl.ErrForm, 0, 0},
		{"a comma first", []string{",a\n"}, impl.ErrForm, 0, 0},
		{"a byte of no rune first", []string{"\xa0a\n"}, impl.ErrForm, 0, 0},
		{"nothing behind a blank", []string{" "}, impl.ErrForm, 0, 0},
		{"nothing behind -", []string{"+a\n", "-"}, impl.ErrForm, 0, 0},
		{"nothing behind +", []string{"+", "+a\n"}, impl.ErrForm, 0, 0},
		{"a line feed within", []string{"-a\nb\n"}, impl.ErrForm, 0, 0},
		{"a line feed within, none last", []string{" a\nb"}, impl.ErrForm, 0, 0},
		{"two line feeds", []string{"+\n\n"}, impl.ErrForm, 0, 0},
		{"the last of many is wrong", append(slices.Repeat([]string{"-\n"}, 1000), "x"), impl.ErrForm, 0, 0},
	}
	for _, c := range cases {
		for _, at := range []int64{0, -1, math.MaxInt64} {
			r := impl.SizesOf(hunkOf(at, -at, c.lines...))
			want := []int64{c.old, c.new}
			if c.code != impl.OK {
				want = nil
			}
			if r.Code != c.code || !slices.Equal(r.List, want) {
				t.Errorf("%s: SizesOf = %+v, want %d %d", c.name, r, c.code, want)
			}
		}
	}
}

// wantHunksCode: every function that asks for the fault of hunks answers this code, and nothing beside it.
func wantHunksCode(t *testing.T, name string, hunks []impl.Hunk, code int64) {
	t.Helper()
	if got := impl.HunksFault(hunks); got != code {
		t.Errorf("%s: HunksFault = %d, want %d", name, got, code)
	}
	if code == impl.OK {
		return
	}
	if r := impl.ApplyHunks(nil, hunks); r.Code != code || r.Lines != nil {
		t.Errorf("%s: ApplyHunks = %#v, want %d", name, r, code)
	}
	if r := impl.ReverseHunks(hunks); r.Code != code || r.At != 0 || r.Hunks != nil {
		t.Errorf("%s: ReverseHunks = %#v, want %d", name, r, code)
	}
	if r := impl.FormatPatch(hunks); r != (impl.TextResult{Code: code}) {
		t.Errorf("%s: FormatPatch = %#v, want %d", name, r, code)
	}
}

func TestHunksFault(t *testing.T) {
	const low, high = math.MinInt64, math.MaxInt64
	many := slices.Repeat([]string{"-\n"}, 2*maxLines)
	tooMany := append(slices.Clone(many), "")
	good := hunkOf(1, 1, " a\n", "-b\n", "+c\n", "+d\n")
	bad := hunkOf(1, 1, "b\n")
	var meeting []impl.Hunk
	for at := range int64(maxLines) {
		meeting = append(meeting, hunkOf(at, at, "-a\n", "+b\n"))
	}
	cases := []struct {
		name  string
		hunks []impl.Hunk
		code  int64
	}{
		{"none", nil, impl.OK},
		{"an empty list", []impl.Hunk{}, impl.OK},
		{"one", []impl.Hunk{good}, impl.OK},
		{"MaxLines hunks that meet", meeting, impl.OK},
		{"one hunk more", append(slices.Clone(meeting), hunkOf(maxLines, maxLines, "+a\n")), impl.ErrMany},
		{"far too many hunks", make([]impl.Hunk, 100000), impl.ErrMany},
		{"too many hunks ahead of a hunk without form", append([]impl.Hunk{bad}, meeting...), impl.ErrMany},
		{"MaxLines hunks, the first without form", append([]impl.Hunk{bad}, meeting[1:]...), impl.ErrForm},
		{"twice MaxLines Lines", []impl.Hunk{hunkOf(0, 0, many...)}, impl.OK},
		{"one Line more", []impl.Hunk{hunkOf(0, 0, append(slices.Clone(many), "+\n")...)}, impl.ErrMany},
		{"too many Lines ahead of one without form", []impl.Hunk{hunkOf(0, 0, tooMany...)}, impl.ErrMany},
		{"too many Lines ahead of a place", []impl.Hunk{hunkOf(-1, 9, tooMany...)}, impl.ErrMany},
		{"far too many Lines", []impl.Hunk{hunkOf(0, 0, make([]string, 100000)...)}, impl.ErrMany},
		{"too many Lines in the second, no form in the first", []impl.Hunk{bad, hunkOf(2, 2, tooMany...)}, impl.ErrForm},
		{"too many Lines in the second, a place in the first", []impl.Hunk{hunkOf(-1, -1, "+a\n"), hunkOf(2, 2, tooMany...)}, impl.ErrRange},
		{"too many Lines in the first, a place in the second", []impl.Hunk{hunkOf(2, 2, tooMany...), hunkOf(-1, -1, "+a\n")}, impl.ErrMany},
		{"too many Lines in the second", []impl.Hunk{good, hunkOf(3, 4, tooMany...)}, impl.ErrMany},
		{"no mark", []impl.Hunk{bad}, impl.ErrForm},
		{"an empty line", []impl.Hunk{hunkOf(1, 1, "-a\n", "")}, impl.ErrForm},
		{"nothing behind a mark", []impl.Hunk{hunkOf(1, 1, "-a\n", "+")}, impl.ErrForm},
		{"a line feed within", []impl.Hunk{hunkOf(1, 1, "-a\nb\n")}, impl.ErrForm},
		{"no form ahead of a place", []impl.Hunk{hunkOf(-1, -1, "b\n")}, impl.ErrForm},
		{"no form in the second, a place in the first", []impl.Hunk{hunkOf(-1, -1, "+a\n"), bad}, impl.ErrRange},
		{"no Lines", []impl.Hunk{hunkOf(1, 1)}, impl.ErrForm},
		{"no Lines, out of place", []impl.Hunk{hunkOf(low, high)}, impl.ErrForm},
		{"lines that stay alone", []impl.Hunk{hunkOf(1, 1, " a\n", " b\n")}, impl.ErrForm},
		{"lines that stay alone, with marks within", []impl.Hunk{hunkOf(1, 1, " -\n", "  +\n")}, impl.ErrForm},
		{"lines that stay alone, out of place", []impl.Hunk{hunkOf(-1, 1, " a\n")}, impl.ErrForm},
		{"lines that stay and one that goes", []impl.Hunk{hunkOf(1, 1, " a\n", " b\n", "-c\n")}, impl.OK},
		{"lines that stay and one that comes", []impl.Hunk{hunkOf(1, 1, "+c\n", " a\n", " b\n")}, impl.OK},
		{"AtA below 0", []impl.Hunk{hunkOf(-1, 0, "+a\n")}, impl.ErrRange},
		{"AtB below 0", []impl.Hunk{hunkOf(0, -1, "+a\n")}, impl.ErrRange},
		{"both below 0", []impl.Hunk{hunkOf(-1, -1, "+a\n")}, impl.ErrRange},
		{"both at MaxLines", []impl.Hunk{hunkOf(maxLines, maxLines, "+a\n")}, impl.OK},
		{"both at MaxLines, with lines that go", []impl.Hunk{hunkOf(maxLines, maxLines, many...)}, impl.OK},
		{"AtA above MaxLines", []impl.Hunk{hunkOf(maxLines+1, maxLines, "+a\n")}, impl.ErrRange},
		{"AtB above MaxLines", []impl.Hunk{hunkOf(maxLines, maxLines+1, "+a\n")}, impl.ErrRange},
		{"both above MaxLines", []impl.Hunk{hunkOf(maxLines+1, maxLines+1, "+a\n")}, impl.ErrRange},
		{"AtA at the low end", []impl.Hunk{hunkOf(low, 0, "+a\n")}, impl.ErrRange},
		{"AtB at the low end", []impl.Hunk{hunkOf(0, low, "+a\n")}, impl.ErrRange},
		{"AtA at the high end", []impl.Hunk{hunkOf(high, 0, "+a\n")}, impl.ErrRange},
		{"AtB at the high end", []impl.Hunk{hunkOf(0, high, "+a\n")}, impl.ErrRange},
		{"both at the high end", []impl.Hunk{hunkOf(high, high, "+a\n")}, impl.ErrRange},
		{"both ends", []impl.Hunk{hunkOf(low, high, "+a\n")}, impl.ErrRange},
		{"the second at the low end", []impl.Hunk{good, hunkOf(low, low, "+a\n")}, impl.ErrRange},
		{"the second at the high end", []impl.Hunk{good, hunkOf(high, high, "+a\n")}, impl.ErrRange},
		{"the first not as far in the new lines", []impl.Hunk{hunkOf(1, 0, "+a\n")}, impl.ErrForm},
		{"the first not as far in the old lines", []impl.Hunk{hunkOf(0, 1, "+a\n")}, impl.ErrForm},
		{"two that meet", []impl.Hunk{good, hunkOf(3, 4, "+a\n")}, impl.OK},
		{"one line between", []impl.Hunk{good, hunkOf(4, 5, "+a\n")}, impl.OK},
		{"below where the first ends", []impl.Hunk{good, hunkOf(2, 3, "+a\n")}, impl.ErrForm},
		{"below where the first ends in the old lines", []impl.Hunk{good, hunkOf(2, 4, "+a\n")}, impl.ErrForm},
		{"below where the first ends in the new lines", []impl.Hunk{good, hunkOf(3, 3, "+a\n")}, impl.ErrForm},
		{"at the same places as the first", []impl.Hunk{good, good}, impl.ErrForm},
		{"not as far in the new lines", []impl.Hunk{good, hunkOf(5, 5, "+a\n")}, impl.ErrForm},
		{"farther in the new lines", []impl.Hunk{good, hunkOf(4, 6, "+a\n")}, impl.ErrForm},
		{"lines that come twice at one place", []impl.Hunk{hunkOf(0, 0, "+a\n"), hunkOf(0, 1, "+b\n")}, impl.OK},
		{"lines that come and go at one place", []impl.Hunk{hunkOf(0, 0, "+a\n"), hunkOf(0, 1, "-b\n")}, impl.OK},
		{"the ends are the last hunk's", []impl.Hunk{hunkOf(0, 0, "+a\n"), hunkOf(5, 6, "-b\n"), hunkOf(6, 6, "+a\n")}, impl.OK},
		{"the ends are not those of the first hunk", []impl.Hunk{hunkOf(0, 0, "+a\n"), hunkOf(5, 6, "-b\n"), hunkOf(6, 7, "+a\n")}, impl.ErrForm},
		{"AtB above MaxLines behind lines that come", []impl.Hunk{hunkOf(0, 0, "+a\n"), hunkOf(maxLines, maxLines+1, "+a\n")}, impl.ErrRange},
		{"a place of the second ahead of its distance", []impl.Hunk{good, hunkOf(0, -1, "+a\n")}, impl.ErrRange},
		{"the third is wrong", []impl.Hunk{good, hunkOf(3, 4, "+a\n"), hunkOf(2, 5, "+a\n")}, impl.ErrForm},
		{"a line without line feed within", []impl.Hunk{hunkOf(1, 1, " a", "+b\n")}, impl.OK},
	}
	for _, c := range cases {
		wantHunksCode(t, c.name, c.hunks, c.code)
	}
}

var markedForm = regexp.MustCompile(`^[ +-]([^\n]+\n?|\n)$`)

// hunksFaultByWords asks of each hunk what the document asks, one question at a time.
func hunksFaultByWords(hunks []impl.Hunk) int64 {
	endA, endB := int64(0), int64(0)
	for _, h := range hunks {
		counts := map[byte]int64{}
		for _, line := range h.Lines {
			if !markedForm.MatchString(line) {
				return impl.ErrForm
			}
			counts[line[0]]++
		}
		if counts['-'] == 0 && counts['+'] == 0 {
			return impl.ErrForm
		}
		if min(h.AtA, h.AtB) < 0 || max(h.AtA, h.AtB) > maxLines {
			return impl.ErrRange
		}
		if h.AtA < endA || h.AtB-endB != h.AtA-endA {
			return impl.ErrForm
		}
		endA = h.AtA + counts[' '] + counts['-']
		endB = h.AtB + counts[' '] + counts['+']
	}
	return impl.OK
}

// applyByPlaces notes at each place of a what comes ahead of it and whether it goes.
func applyByPlaces(a []string, hunks []impl.Hunk) (int64, []string) {
	come := map[int64][]string{}
	isGone := map[int64]bool{}
	for _, h := range hunks {
		at := h.AtA
		if at > int64(len(a)) {
			return impl.ErrClash, nil
		}
		for _, line := range h.Lines {
			if line[0] == '+' {
				come[at] = append(come[at], line[1:])
				continue
			}
			if at >= int64(len(a)) || a[at] != line[1:] {
				return impl.ErrClash, nil
			}
			isGone[at] = line[0] == '-'
			at++
		}
	}
	var lines []string
	for at := range int64(len(a) + 1) {
		lines = append(lines, come[at]...)
		if at < int64(len(a)) && !isGone[at] {
			lines = append(lines, a[at])
		}
	}
	if code := impl.LinesFault(lines); code != impl.OK {
		return code, nil
	}
	return impl.OK, lines
}

func everySmallHunk(lines []string, length int, most int64) []impl.Hunk {
	var hunks []impl.Hunk
	for _, list := range listsOver(lines, length) {
		for atA := int64(-1); atA <= most; atA++ {
			for atB := int64(-1); atB <= most; atB++ {
				hunks = append(hunks, hunkOf(atA, atB, list...))
			}
		}
	}
	return hunks
}

// checkHunks holds all that chapter 3 says of any hunks against what is reckoned here.
func checkHunks(t *testing.T, hunks []impl.Hunk, lists [][]string) {
	t.Helper()
	code := hunksFaultByWords(hunks)
	wantHunksCode(t, fmt.Sprintf("%#v", hunks), hunks, code)
	if code != impl.OK {
		return
	}
	text := impl.FormatPatch(hunks)
	if text.Code != impl.OK || text.Text != patchByWords(hunks) {
		t.Fatalf("FormatPatch(%#v) = %#v", hunks, text)
	}
	if r := impl.ParsePatch(text.Text); r.Code != impl.OK || r.At != 0 || !sameHunks(r.Hunks, hunks) {
		t.Fatalf("ParsePatch(%#v) = %#v, want %#v", text.Text, r, hunks)
	}
	back := impl.ReverseHunks(hunks)
	if again := impl.ReverseHunks(back.Hunks); back.Code != impl.OK || again.Code != impl.OK || !sameHunks(again.Hunks, hunks) {
		t.Fatalf("turned round %#v is %#v, and turned back %#v", hunks, back, again)
	}
	for _, a := range lists {
		code, lines := applyByPlaces(a, hunks)
		if r := impl.ApplyHunks(a, hunks); r.Code != code || !slices.Equal(r.Lines, lines) {
			t.Fatalf("ApplyHunks(%#v, %#v) = %#v, want %d %#v", a, hunks, r, code, lines)
		}
		if code != impl.OK {
			continue
		}
		if r := impl.ApplyHunks(lines, back.Hunks); r.Code != impl.OK || !slices.Equal(r.Lines, a) {
			t.Fatalf("%#v made %#v of %#v; turned round they make %#v", hunks, lines, a, r)
		}
	}
}

func TestPromise4EveryOneAndTwoSmallHunks(t *testing.T) {
	lists := smallTexts([]string{"a", "b"}, 2)
	lines := []string{" a\n", "-a\n", "+a\n", "-b", "+b"}
	seconds := everySmallHunk([]string{" a\n", "-b", "+a\n", "a"}, 2, 3)
	for _, first := range everySmallHunk(lines, 3, 3) {
		checkHunks(t, []impl.Hunk{first}, lists)
		if len(first.Lines) > 2 || hunksFaultByWords([]impl.Hunk{first}) != impl.OK {
			continue
		}
		for _, second := range seconds {
			checkHunks(t, []impl.Hunk{first, second}, lists)
		}
	}
	for _, first := range everySmallHunk([]string{"", " ", "-", "+", "a\n", "\n", "-a\nb", "+\n"}, 2, 0) {
		checkHunks(t, []impl.Hunk{first}, nil)
	}
}

func TestApplyHunks(t *testing.T) {
	full := slices.Repeat([]string{"a\n"}, maxLines)
	long := []string{strings.Repeat("a", maxText-1) + "\n"}
	abc := linesOf("a b c")
	cases := []struct {
		name  string
		a     []string
		hunks []impl.Hunk
		code  int64
		lines []string
	}{
		{"no hunk", abc, nil, impl.OK, abc},
		{"no hunk, no lines", nil, []impl.Hunk{}, impl.OK, nil},
		{"one", abc, []impl.Hunk{hunkOf(0, 0, " a\n", "-b\n", "+x\n", " c\n")}, impl.OK, linesOf("a x c")},
		{"all goes", abc, []impl.Hunk{hunkOf(0, 0, "-a\n", "-b\n", "-c\n")}, impl.OK, nil},
		{"lines come ahead of all", abc, []impl.Hunk{hunkOf(0, 0, "+x\n")}, impl.OK, linesOf("x a b c")},
		{"lines come behind all", abc, []impl.Hunk{hunkOf(3, 3, "+x\n", "+y")}, impl.OK, linesOf("a b c x y/")},
		{"lines come to nothing", nil, []impl.Hunk{hunkOf(0, 0, "+x\n")}, impl.OK, linesOf("x")},
		{"two", abc, []impl.Hunk{hunkOf(0, 0, "-a\n"), hunkOf(2, 1, "+x\n", "-c\n", "+y\n")}, impl.OK, linesOf("b x y")},
		{"two that meet", abc, []impl.Hunk{hunkOf(0, 0, "-a\n", "+x\n"), hunkOf(1, 1, "-b\n", "+y\n")}, impl.OK, linesOf("x y c")},
		{"two at one place", abc, []impl.Hunk{hunkOf(1, 1, "+x\n"), hunkOf(1, 2, "+y\n")}, impl.OK, linesOf("a x y b c")},
		{"lines that come ahead of those that go", abc, []impl.Hunk{hunkOf(1, 1, "+x\n", "-b\n", "+y\n")}, impl.OK, linesOf("a x y c")},
		{"one that stays is another", abc, []impl.Hunk{hunkOf(0, 0, " x\n", "-b\n")}, impl.ErrClash, nil},
		{"one that goes is another", abc, []impl.Hunk{hunkOf(0, 0, " a\n", "-x\n")}, impl.ErrClash, nil},
		{"one behind is another", abc, []impl.Hunk{hunkOf(0, 0, " a\n", "-b\n", " x\n")}, impl.ErrClash, nil},
		{"the same, at another place", abc, []impl.Hunk{hunkOf(0, 0, "-b\n")}, impl.ErrClash, nil},
		{"without its line feed", abc, []impl.Hunk{hunkOf(2, 2, "-c")}, impl.ErrClash, nil},
		{"with a line feed that is not there", linesOf("a/"), []impl.Hunk{hunkOf(0, 0, "-a\n")}, impl.ErrClash, nil},
		{"without a line feed on both sides", linesOf("a b/"), []impl.Hunk{hunkOf(1, 1, "-b", "+c")}, impl.OK, linesOf("a c/")},
		{"the second clashes", abc, []impl.Hunk{hunkOf(0, 0, "-a\n"), hunkOf(1, 0, "-x\n")}, impl.ErrClash, nil},
		{"lines behind the end", abc, []impl.Hunk{hunkOf(2, 2, "-c\n", "-d\n")}, impl.ErrClash, nil},
		{"a line at the end", abc, []impl.Hunk{hunkOf(3, 3, "-d\n")}, impl.ErrClash, nil},
		{"a line behind the end", abc, []impl.Hunk{hunkOf(4, 4, "-d\n")}, impl.ErrClash, nil},
		{"a place behind the end, where lines come alone", abc, []impl.Hunk{hunkOf(4, 4, "+d\n")}, impl.ErrClash, nil},
		{"MaxLines, where lines come alone", abc, []impl.Hunk{hunkOf(maxLines, maxLines, "+d\n")}, impl.ErrClash, nil},
		{"the second behind the end, where lines come alone", abc, []impl.Hunk{hunkOf(0, 0, "-a\n"), hunkOf(4, 3, "+d\n")}, impl.ErrClash, nil},
		{"behind a line without line feed", linesOf("a/"), []impl.Hunk{hunkOf(1, 1, "+b\n")}, impl.ErrForm, nil},
		{"a line without line feed ahead of others", abc, []impl.Hunk{hunkOf(0, 0, "+x")}, impl.ErrForm, nil},
		{"a clash ahead of a missing line feed", abc, []impl.Hunk{hunkOf(0, 0, "+x"), hunkOf(1, 2, "-x\n")}, impl.ErrClash, nil},
		{"more than MaxLines lines", full, []impl.Hunk{hunkOf(0, 0, "+x\n")}, impl.ErrMany, nil},
		{"MaxLines lines", full, []impl.Hunk{hunkOf(0, 0, "-a\n", "+x\n")}, impl.OK, append([]string{"x\n"}, full[1:]...)},
		{"behind MaxLines lines", full[1:], []impl.Hunk{hunkOf(maxLines-1, maxLines-1, "+x")}, impl.OK, append(slices.Clone(full[1:]), "x")},
		{"a clash ahead of too many lines", full, []impl.Hunk{hunkOf(0, 0, "+x\n"), hunkOf(1, 2, "-x\n")}, impl.ErrClash, nil},
		{"more than MaxText bytes", long, []impl.Hunk{hunkOf(0, 0, "+\n", "+\n")}, impl.ErrMany, nil},
		{"one byte more than MaxText", long, []impl.Hunk{hunkOf(1, 1, "+a")}, impl.ErrMany, nil},
		{"MaxText bytes", []string{long[0][1:]}, []impl.Hunk{hunkOf(0, 0, "+\n")}, impl.OK, []string{"\n", long[0][1:]}},
		{"a line longer than MaxText comes", nil, []impl.Hunk{hunkOf(0, 0, "+"+strings.Repeat("a", maxText+1))}, impl.ErrMany, nil},
		{"a line longer than MaxText goes", nil, []impl.Hunk{hunkOf(0, 0, "-"+strings.Repeat("a", maxText+1))}, impl.ErrClash, nil},
		{"too many and without line feed", full, []impl.Hunk{hunkOf(0, 0, "+x")}, impl.ErrMany, nil},
	}
	for _, c := range cases {
		if code := impl.HunksFault(c.hunks); code != impl.OK {
			t.Errorf("%s: HunksFault = %d", c.name, code)
		}
		r := impl.ApplyHunks(c.a, c.hunks)
		if r.Code != c.code || !slices.Equal(r.Lines, c.lines) || r.Code != impl.OK && r.Lines != nil {
			t.Errorf("%s: ApplyHunks = %#v, want %d %#v", c.name, r, c.code, c.lines)
		}
	}
	for name, one := range faultyLists() {
		for _, hunks := range [][]impl.Hunk{nil, {hunkOf(0, 0, "-x\n")}, {hunkOf(-1, 0, "-x\n")}, {hunkOf(0, 0, "x")}} {
			if r := impl.ApplyHunks(one.lines, hunks); r.Code != one.code || r.Lines != nil {
				t.Errorf("%s: ApplyHunks = %#v, want %d", name, r, one.code)
			}
		}
	}
	if r := impl.ApplyHunks(abc, []impl.Hunk{hunkOf(0, 0, "-x\n"), hunkOf(0, 0, "-x\n")}); r.Code != impl.ErrForm {
		t.Errorf("ApplyHunks of hunks with a fault that clash = %#v", r)
	}
}

func TestReverseHunks(t *testing.T) {
	hunks := []impl.Hunk{hunkOf(1, 1, " a\n", "-b\n", "+c\n", "+-d\n", " e\n"), hunkOf(7, 8, "+x", "-+y")}
	want := []impl.Hunk{hunkOf(1, 1, " a\n", "+b\n", "-c\n", "--d\n", " e\n"), hunkOf(8, 7, "-x", "++y")}
	if r := impl.ReverseHunks(hunks); r.Code != impl.OK || r.At != 0 || !sameHunks(r.Hunks, want) {
		t.Errorf("ReverseHunks = %#v, want %#v", r, want)
	}
	if r := impl.ReverseHunks(nil); r.Code != impl.OK || r.At != 0 || len(r.Hunks) != 0 {
		t.Errorf("ReverseHunks of none = %#v", r)
	}
}

func TestFormatPatch(t *testing.T) {
	cases := []struct {
		name  string
		hunks []impl.Hunk
		text  string
	}{
		{"none", nil, ""},
		{"the document's", []impl.Hunk{hunkOf(0, 0, " a\n", "-b\n", "+c\n")}, "@@ -0,2 +0,2 @@\n a\n-b\n+c\n"},
		{"lines that come alone", []impl.Hunk{hunkOf(10, 10, "+a\n", "+\n")}, "@@ -10,0 +10,2 @@\n+a\n+\n"},
		{"lines that go alone", []impl.Hunk{hunkOf(100, 100, "-a\n", "-\n")}, "@@ -100,2 +100,0 @@\n-a\n-\n"},
		{"no line feed on the old side", []impl.Hunk{hunkOf(0, 0, "-a", "+a\n")}, "@@ -0,1 +0,1 @@\n-a\n\\\n+a\n"},
		{"no line feed on the new side", []impl.Hunk{hunkOf(0, 0, "-a\n", "+a")}, "@@ -0,1 +0,1 @@\n-a\n+a\n\\\n"},
		{"no line feed on both sides", []impl.Hunk{hunkOf(0, 0, "-a", "+b")}, "@@ -0,1 +0,1 @@\n-a\n\\\n+b\n\\\n"},
		{"no line feed at one that stays", []impl.Hunk{hunkOf(0, 0, "-a\n", " b")}, "@@ -0,2 +0,1 @@\n-a\n b\n\\\n"},
		{"a backslash as a line", []impl.Hunk{hunkOf(0, 0, "-\\\n", "+\\")}, "@@ -0,1 +0,1 @@\n-\\\n+\\\n\\\n"},
		{"a first line as a line", []impl.Hunk{hunkOf(0, 0, "-@@ -0,1 +0,1 @@\n")}, "@@ -0,1 +0,0 @@\n-@@ -0,1 +0,1 @@\n"},
		{"two that meet", []impl.Hunk{hunkOf(2, 2, "-a\n"), hunkOf(3, 2, "+b\n")}, "@@ -2,1 +2,0 @@\n-a\n@@ -3,0 +2,1 @@\n+b\n"},
	}
	for _, c := range cases {
		if r := impl.FormatPatch(c.hunks); r.Code != impl.OK || r.Text != c.text {
			t.Errorf("%s: FormatPatch = %#v, want %#v", c.name, r, c.text)
		}
		if r := impl.ParsePatch(c.text); r.Code != impl.OK || r.At != 0 || !sameHunks(r.Hunks, c.hunks) {
			t.Errorf("%s: ParsePatch = %#v, want %#v", c.name, r, c.hunks)
		}
	}
}

func TestPatchesAtTheirBounds(t *testing.T) {
	const head = "@@ -0,0 +0,1 @@\n+"
	wide := strings.Repeat("a", maxPatch-len(head)-1) + "\n"
	short := strings.Repeat("a", maxPatch-len(head)-3)
	second := hunkOf(0, 1, "+\n")
	narrow := wide[len("@@ -0,0 +1,1 @@\n+\n"):]
	cases := []struct {
		name  string
		hunks []impl.Hunk
		code  int64
	}{
		{"MaxPatch bytes", []impl.Hunk{hunkOf(0, 0, "+"+wide)}, impl.OK},
		{"one byte more", []impl.Hunk{hunkOf(0, 0, "+a"+wide)}, impl.ErrMany},
		{"MaxPatch bytes, no line feed", []impl.Hunk{hunkOf(0, 0, "+"+short)}, impl.OK},
		{"one byte more, no line feed", []impl.Hunk{hunkOf(0, 0, "+"+short+"a")}, impl.ErrMany},
		{"MaxPatch bytes in two hunks", []impl.Hunk{hunkOf(0, 0, "+"+narrow), second}, impl.OK},
		{"one byte more in two hunks", []impl.Hunk{hunkOf(0, 0, "+a"+narrow), second}, impl.ErrMany},
		{"far more", []impl.Hunk{hunkOf(0, 0, slices.Repeat([]string{"-" + wide}, 2*maxLines)...)}, impl.ErrMany},
		{"a fault ahead of too many bytes", []impl.Hunk{hunkOf(0, 0, "+a"+wide), hunkOf(-1, 0, "+\n")}, impl.ErrRange},
	}
	for _, c := range cases {
		r := impl.FormatPatch(c.hunks)
		text := patchByWords(c.hunks)
		if c.code != impl.OK {
			if r != (impl.TextResult{Code: c.code}) {
				t.Errorf("%s: FormatPatch = %d, %d bytes, want %d", c.name, r.Code, len(r.Text), c.code)
			}
			if read := impl.ParsePatch(text); read.Code != impl.ErrMany || read.At != 0 || read.Hunks != nil {
				t.Errorf("%s: ParsePatch = %d, At %d, %d hunks", c.name, read.Code, read.At, len(read.Hunks))
			}
			continue
		}
		if r.Code != impl.OK || r.Text != text || len(text) != maxPatch {
			t.Errorf("%s: FormatPatch = %d, %d bytes of %d", c.name, r.Code, len(r.Text), len(text))
		}
		if read := impl.ParsePatch(text); read.Code != impl.OK || read.At != 0 || !sameHunks(read.Hunks, c.hunks) {
			t.Errorf("%s: ParsePatch = %d, At %d, %d hunks", c.name, read.Code, read.At, len(read.Hunks))
		}
	}
	one := "@@ -0,0 +0,1 @@\n+a\n"
	if r := impl.ParsePatch(one + strings.Repeat("x", maxPatch-len(one))); r.Code != impl.ErrText || r.At != 1 {
		t.Errorf("MaxPatch bytes, the last of no hunk: ParsePatch = %#v", r)
	}
	for _, more := range []int{1, 100000} {
		if r := impl.ParsePatch(one + strings.Repeat("x", maxPatch-len(one)+more)); r.Code != impl.ErrMany || r.At != 0 {
			t.Errorf("more than MaxPatch bytes, the last of no hunk: ParsePatch = %#v", r)
		}
	}
}

var headForm = regexp.MustCompile(`^@@ -(0|[1-9][0-9]{0,3}),(0|[1-9][0-9]{0,3}) \+(0|[1-9][0-9]{0,3}),(0|[1-9][0-9]{0,3}) @@\n`)
var lineForm = regexp.MustCompile(`^([ +-](?s-m:[^\n]*))\n(\\\n)?`)

// hunkByForm reads one hunk, and answers how many bytes it has: 0 where there is none.
func hunkByForm(text string) (impl.Hunk, int) {
	head := headForm.FindStringSubmatch(text)
	if head == nil {
		return impl.Hunk{}, 0
	}
	var numbers [4]int64
	for i := range numbers {
		numbers[i], _ = strconv.ParseInt(head[i+1], 10, 64)
	}
	hunk := hunkOf(numbers[0], numbers[2])
	read := len(head[0])
	counts := map[byte]int64{}
	for counts[' ']+counts['-'] < numbers[1] || counts[' ']+counts['+'] < numbers[3] {
		line := lineForm.FindStringSubmatch(text[read:])
		if line == nil {
			return impl.Hunk{}, 0
		}
		// A mark that has not even a line feed behind it has no line there.
		if len(line[1]) == 1 && line[2] != "" {
			return impl.Hunk{}, 0
		}
		read += len(line[0])
		counts[line[1][0]]++
		if line[2] == "" {
			line[1] += "\n"
		}
		hunk.Lines = append(hunk.Lines, line[1])
	}
	if counts[' ']+counts['-'] != numbers[1] || counts[' ']+counts['+'] != numbers[3] {
		return impl.Hunk{}, 0
	}
	return hunk, read
}

// parseByForm: what ParsePatch is to answer to a text that is not too long.
func parseByForm(text string) impl.HunksResult {
	var hunks []impl.Hunk
	for text != "" {
		hunk, read := hunkByForm(text)
		if read == 0 {
			return impl.HunksResult{Code: impl.ErrText, At: int64(len(hunks))}
		}
		hunks = append(hunks, hunk)
		text = text[read:]
	}
	if code := impl.HunksFault(hunks); code != impl.OK {
		return impl.HunksResult{Code: code}
	}
	return impl.HunksResult{Hunks: hunks}
}

func checkParse(t *testing.T, text string) {
	t.Helper()
	want := parseByForm(text)
	r := impl.ParsePatch(text)
	if r.Code != want.Code || r.At != want.At || !sameHunks(r.Hunks, want.Hunks) || r.Code != impl.OK && r.Hunks != nil {
		t.Fatalf("ParsePatch(%#v) = %#v, want %#v", text, r, want)
	}
	if r.Code != impl.OK {
		return
	}
	if again := impl.FormatPatch(r.Hunks); again.Code != impl.OK || again.Text != text {
		t.Fatalf("%#v was read; FormatPatch writes %#v", text, again)
	}
}

func patchesToSpoil() []string {
	return []string{
		"@@ -0,2 +0,2 @@\n a\n-b\n+c\n",
		"@@ -0,1 +0,1 @@\n-a\n\\\n+b\n\\\n",
		"@@ -1,1 +1,0 @@\n-a\n@@ -2,0 +1,1 @@\n+b\n\\\n@@ -12,2 +12,1 @@\n-\\\n \n",
		"@@ -0,0 +0,10 @@\n" + strings.Repeat("+\n", 10),
	}
}

func TestParsePatchCutAtEveryByte(t *testing.T) {
	for _, text := range patchesToSpoil() {
		if r := impl.ParsePatch(text); r.Code != impl.OK {
			t.Errorf("ParsePatch(%#v) = %#v", text, r)
		}
		for i := range len(text) + 1 {
			checkParse(t, text[:i])
			checkParse(t, text[i:])
			checkParse(t, text+text[:i])
		}
	}
}

func TestParsePatchSpoiltAtEveryByte(t *testing.T) {
	parts := []string{"0", "1", "2", "9", "00", "a", "@", " ", "-", "+", ",", "\n", "\\", "\\\n", "-a\n", "\x00", "\xff", "@@ -0,0 +0,0 @@\n"}
	for _, text := range patchesToSpoil() {
		for i := range len(text) {
			checkParse(t, text[:i]+text[i+1:])
			for _, part := range parts {
				checkParse(t, text[:i]+part+text[i:])
				checkParse(t, text[:i]+part+text[i+1:])
			}
		}
		for _, part := range parts {
			checkParse(t, text+part)
		}
	}
}

func TestParsePatchEverySmallBody(t *testing.T) {
	parts := []string{" a\n", "-\n", "+b\n", "\\\n", "-", "@@ -0,1 +0,1 @@\n"}
	for _, head := range []string{"@@ -0,1 +0,1 @@\n", "@@ -0,2 +0,0 @@\n", "@@ -0,0 +0,0 @@\n", ""} {
		for _, body := range listsOver(parts, 5) {
			checkParse(t, head+strings.Join(body, ""))
		}
	}
}

func TestParsePatch(t *testing.T) {
	good := "@@ -0,0 +0,1 @@\n+a\n"
	cases := []struct {
		name string
		text string
		code int64
		at   int64
	}{
		{"nothing", "", impl.OK, 0},
		{"one", good, impl.OK, 0},
		{"a line feed alone", "\n", impl.ErrText, 0},
		{"a line feed behind", good + "\n", impl.ErrText, 1},
		{"a line feed ahead", "\n" + good, impl.ErrText, 0},
		{"no line feed last", good[:len(good)-1], impl.ErrText, 0},
		{"the first line alone", good[:16], impl.ErrText, 0},
		{"the first line without line feed", good[:15], impl.ErrText, 0},
		{"the second cut", good + good[:17], impl.ErrText, 1},
		{"the third cut", good + "@@ -0,0 +1,1 @@\n+a\n" + good[:17], impl.ErrText, 2},
		{"a nought ahead of AtA", "@@ -00,0 +0,1 @@\n+a\n", impl.ErrText, 0},
		{"a nought ahead of the old count", "@@ -0,00 +0,1 @@\n+a\n", impl.ErrText, 0},
		{"a nought ahead of AtB", "@@ -0,0 +01,1 @@\n+a\n", impl.ErrText, 0},
		{"a nought ahead of the new count", "@@ -0,0 +0,01 @@\n+a\n", impl.ErrText, 0},
		{"no AtA", "@@ -,0 +0,1 @@\n+a\n", impl.ErrText, 0},
		{"no old count", "@@ -0, +0,1 @@\n+a\n", impl.ErrText, 0},
		{"no AtB", "@@ -0,0 +,1 @@\n+a\n", impl.ErrText, 0},
		{"no new count", "@@ -0,0 +0, @@\n+a\n", impl.ErrText, 0},
		{"5 digits in AtA", "@@ -10000,0 +0,1 @@\n+a\n", impl.ErrText, 0},
		{"5 digits in the old count", "@@ -0,10000 +0,1 @@\n+a\n", impl.ErrText, 0},
		{"5 digits in AtB", "@@ -0,0 +10000,1 @@\n+a\n", impl.ErrText, 0},
		{"5 digits in the new count", "@@ -0,0 +0,10000 @@\n+a\n", impl.ErrText, 0},
		{"more digits than a number holds", "@@ -0,0 +" + strings.Repeat("9", 100) + ",1 @@\n+a\n", impl.ErrText, 0},
		{"4 digits", "@@ -9999,0 +9999,1 @@\n+a\n", impl.ErrRange, 0},
		{"a number below 0", "@@ --1,0 +0,1 @@\n+a\n", impl.ErrText, 0},
		{"a number with a plus", "@@ -0,0 ++1,1 @@\n+a\n", impl.ErrText, 0},
		{"a count more", "@@ -0,0 +0,2 @@\n+a\n", impl.ErrText, 0},
		{"a count more of old lines", "@@ -0,1 +0,1 @@\n+a\n", impl.ErrText, 0},
		{"4 digits of lines", "@@ -0,0 +0,9999 @@\n+a\n", impl.ErrText, 0},
		{"a count fewer", "@@ -0,0 +0,1 @@\n+a\n+b\n", impl.ErrText, 1},
		{"a count fewer of old lines", "@@ -0,1 +0,1 @@\n-a\n-b\n+c\n", impl.ErrText, 0},
		{"a line that stays where one side is full", "@@ -0,1 +0,2 @@\n+a\n-b\n c\n", impl.ErrText, 0},
		{"counts of 0", "@@ -0,0 +0,0 @@\n", impl.ErrForm, 0},
		{"counts of 0, and a line", "@@ -0,0 +0,0 @@\n+a\n", impl.ErrText, 1},
		{"lines that stay alone", "@@ -0,1 +0,1 @@\n a\n", impl.ErrForm, 0},
		{"lines that stay alone, then one cut", "@@ -0,1 +0,1 @@\n a\n@", impl.ErrText, 1},
		{"a backslash line behind the first line", "@@ -0,0 +0,1 @@\n\\\n+a\n", impl.ErrText, 0},
		{"a backslash line ahead of all", "\\\n" + good, impl.ErrText, 0},
		{"a backslash line alone", "\\\n", impl.ErrText, 0},
		{"two backslash lines last", good + "\\\n\\\n", impl.ErrText, 1},
		{"two backslash lines within", "@@ -0,1 +0,1 @@\n-a\n\\\n\\\n+b\n", impl.ErrText, 0},
		{"a backslash line cut", good + "\\", impl.ErrText, 1},
		{"a backslash line with more in it", good + "\\ x\n", impl.ErrText, 1},
		{"a backslash line with more in it, within", "@@ -0,1 +0,1 @@\n-a\n\\x\n+b\n", impl.ErrText, 0},
		{"a backslash line behind a mark alone", "@@ -0,0 +0,1 @@\n+\n\\\n", impl.ErrText, 0},
		{"a backslash line behind a - alone", "@@ -0,1 +0,0 @@\n-\n\\\n", impl.ErrText, 0},
		{"a backslash line behind a blank alone", "@@ -0,1 +0,1 @@\n \n\\\n", impl.ErrText, 0},
		{"a backslash line behind a blank alone, then a change", "@@ -0,1 +0,2 @@\n \n\\\n+a\n", impl.ErrText, 0},
		{"a backslash line behind a mark alone, in the second line", "@@ -0,0 +0,2 @@\n+a\n+\n\\\n", impl.ErrText, 0},
		{"a backslash line behind a mark alone, in the second hunk", good + "@@ -0,0 +1,1 @@\n+\n\\\n", impl.ErrText, 1},
		{"a backslash line behind a mark alone, in the third hunk", good + "@@ -0,0 +1,1 @@\n+a\n@@ -0,0 +2,1 @@\n+\n\\\n" + good, impl.ErrText, 2},
		{"a backslash line behind a mark alone, then what is no hunk", "@@ -1,0 +1,1 @@\n+\n\\\n@@ -2,1 +2,1 @@\n a\n\n", impl.ErrText, 0},
		{"a backslash line behind a mark alone, ahead of a wrong place", "@@ -9999,0 +0,1 @@\n+\n\\\n", impl.ErrText, 0},
		{"a line feed alone behind a mark", "@@ -0,0 +0,1 @@\n+\n", impl.OK, 0},
		{"a mark behind a mark, and a backslash line", "@@ -0,0 +0,1 @@\n++\n\\\n", impl.OK, 0},
		{"a byte 0 behind a mark, and a backslash line", "@@ -0,0 +0,1 @@\n+\x00\n\\\n", impl.OK, 0},
		{"a backslash behind a mark, and a backslash line", "@@ -0,0 +0,1 @@\n+\\\n\\\n", impl.OK, 0},
		{"a line without mark", "@@ -0,0 +0,1 @@\na\n", impl.ErrText, 0},
		{"an empty line", "@@ -0,0 +0,1 @@\n\n", impl.ErrText, 0},
		{"a carriage return ahead of the line feed", "@@ -0,0 +0,1 @@\r\n+a\r\n", impl.ErrText, 0},
		{"a text behind the first line", "@@ -0,0 +0,1 @@ x\n+a\n", impl.ErrText, 0},
		{"AtA above MaxLines", "@@ -101,0 +101,1 @@\n+a\n", impl.ErrRange, 0},
		{"not as far", "@@ -0,0 +1,1 @@\n+a\n", impl.ErrForm, 0},
		{"the second below the first", "@@ -1,1 +1,0 @@\n-a\n@@ -1,1 +0,0 @@\n-a\n", impl.ErrForm, 0},
		{"the second below the first, the third cut", "@@ -1,1 +1,0 @@\n-a\n@@ -1,1 +0,0 @@\n-a\n@@ -", impl.ErrText, 2},
		{"MaxLines hunks more", strings.Repeat("@@ -0,0 +0,0 @@\n", maxLines+1), impl.ErrMany, 0},
		{"MaxLines hunks more, then no hunk", strings.Repeat("@@ -0,0 +0,0 @@\n", maxLines+1) + "@", impl.ErrText, maxLines + 1},
		{"too many lines", "@@ -0,201 +0,0 @@\n" + strings.Repeat("-\n", 201), impl.ErrMany, 0},
		{"twice MaxLines lines", "@@ -0,200 +0,0 @@\n" + strings.Repeat("-\n", 200), impl.OK, 0},
		{"far too many lines", "@@ -0,3900 +0,0 @@\n" + strings.Repeat("-\n", 3900), impl.ErrMany, 0},
		{"far too many lines, then no hunk", "@@ -0,3900 +0,0 @@\n" + strings.Repeat("-\n", 3900) + "-\n", impl.ErrText, 1},
	}
	for _, c := range cases {
		r := impl.ParsePatch(c.text)
		if r.Code != c.code || r.At != c.at || r.Code != impl.OK && r.Hunks != nil {
			t.Errorf("%s: ParsePatch = %#v, want %d, At %d", c.name, r, c.code, c.at)
		}
		checkParse(t, c.text)
	}
	if r := impl.ParsePatch("@@ -0,0 +0,1 @@\n+\n"); !sameHunks(r.Hunks, []impl.Hunk{hunkOf(0, 0, "+\n")}) {
		t.Errorf("a mark with a line feed behind it: ParsePatch = %#v", r)
	}
}

// anyHunks: hunks of every kind, with and without faults.
func anyHunks() [][]impl.Hunk {
	return [][]impl.Hunk{
		nil, {}, {{}}, {hunkOf(0, 0, "")}, {hunkOf(0, 0, "+")}, {hunkOf(-1, 7, "+a")}, make([]impl.Hunk, 1000),
		{hunkOf(0, 0, "+a\n")},
		{hunkOf(0, 0, " a\n", "-b\n", "+c\n")},
		{hunkOf(0, 0, "-a\n"), hunkOf(1, 0, "-b\n", "+a")},
		{hunkOf(0, 0, "+x\n"), hunkOf(2, 3, "+y\n"), hunkOf(2, 4, "+z")},
		{hunkOf(0, 0, slices.Repeat([]string{"+" + strings.Repeat("a", 100)}, 2*maxLines)...)},
	}
}

// tellPatches: what all functions of chapter 3 answer to these arguments, in words.
func tellPatches(a []string, b []string, context int64, hunks []impl.Hunk, text string) string {
	answers := fmt.Sprintf("%#v %d %#v %#v %#v %#v", impl.HunksOf(a, b, context), impl.HunksFault(hunks), impl.ApplyHunks(a, hunks), impl.ReverseHunks(hunks), impl.FormatPatch(hunks), impl.ParsePatch(text))
	for _, hunk := range hunks {
		answers += fmt.Sprintf(" %+v", impl.SizesOf(hunk))
	}
	return answers
}

func TestPromise1PatchesHangOnTheArgumentsAlone(t *testing.T) {
	lists := anyLists()
	texts := append(anyTexts(), patchesToSpoil()...)
	tell := func(i int) string {
		a, b := lists[i%len(lists)], lists[(i*5+2)%len(lists)]
		hunks := anyHunks()[i%len(anyHunks())]
		return tellPatches(slices.Clone(a), slices.Clone(b), int64(i%9-1), hunks, strings.Clone(texts[i%len(texts)]))
	}
	answers := make([]string, 4*len(lists))
	for i := range answers {
		answers[i] = tell(i)
	}
	// Backwards each call stands behind other ones than before.
	for i := len(answers) - 1; i >= 0; i-- {
		if tell(i) != answers[i] {
			t.Errorf("round %d: another answer at the second call", i)
		}
	}
}

func TestPromise1PatchesChangeNoArgument(t *testing.T) {
	lists := anyLists()
	for i := range 3 * len(lists) {
		// What lies behind a list in its memory is not the function's either.
		wideA := append(slices.Clone(lists[i%len(lists)]), "behind")
		wideB := append(slices.Clone(lists[(i*5+2)%len(lists)]), "behind")
		hunks := append(cloneHunks(anyHunks()[i%len(anyHunks())]), hunkOf(5, 5, "behind"))
		for k := range hunks {
			wide := append(slices.Clone(hunks[k].Lines), "behind")
			hunks[k].Lines = wide[:len(wide)-1]
		}
		keptA, keptB, kept := slices.Clone(wideA), slices.Clone(wideB), cloneHunks(hunks)
		tellPatches(wideA[:len(wideA)-1], wideB[:len(wideB)-1], int64(i%6), hunks[:len(hunks)-1], "")
		if !slices.Equal(wideA, keptA) || !slices.Equal(wideB, keptB) || !sameHunks(hunks, kept) {
			t.Errorf("round %d: an argument was changed", i)
		}
		for k, hunk := range hunks {
			if behind := hunk.Lines[:len(hunk.Lines)+1]; behind[len(hunk.Lines)] != "behind" {
				t.Errorf("round %d: what lies behind the Lines of hunk %d was changed", i, k)
			}
		}
	}
}

// wantNewHunks: no line of the hunks has memory of the given texts, and no Lines reach into others.
func wantNewHunks(t *testing.T, name string, hunks []impl.Hunk, given []string) {
	t.Helper()
	if len(hunks) < 2 {
		t.Fatalf("%s: %d hunks", name, len(hunks))
	}
	for i, hunk := range hunks {
		for _, line := range hunk.Lines {
			for _, text := range given {
				if sharesBytes(line, text) {
					t.Errorf("%s: the line %#v of hunk %d has the memory of an argument", name, line, i)
				}
			}
		}
	}
	kept := cloneHunks(hunks)
	for i := range hunks {
		before := hunks[i].Lines
		hunks[i].Lines = append(before, "more")
		for k := range before {
			before[k] = "changed"
		}
		for k := range hunks {
			if k > i && !slices.Equal(hunks[k].Lines, kept[k].Lines) {
				t.Errorf("%s: the Lines of hunks %d and %d share memory", name, i, k)
			}
		}
	}
}

func TestPromise1PatchesAreNewMemory(t *testing.T) {
	a := append(numbered(0, 30), "31")
	b := changedAt(a, 3, 14, 31)
	given := slices.Concat(a, b)
	hunks := impl.HunksOf(a, b, 2).Hunks
	keptHunks := cloneHunks(hunks)
	text := strings.Clone(impl.FormatPatch(hunks).Text)

	made := impl.ApplyHunks(a, hunks)
	for _, hunk := range hunks {
		given = append(given, hunk.Lines...)
	}
	for _, line := range made.Lines {
		for _, other := range given {
			if sharesBytes(line, other) {
				t.Errorf("ApplyHunks: the line %#v has the memory of an argument", line)
			}
		}
	}
	untouched := impl.ApplyHunks(a, nil)
	untouched.Lines[0] = "changed"
	if a[0] != "0\n" || sharesBytes(untouched.Lines[1], a[1]) {
		t.Error("ApplyHunks without hunks hands its argument out")
	}
	long := []impl.Hunk{hunkOf(0, 0, strings.Clone("+a line"))}
	if r := impl.FormatPatch(long); sharesBytes(r.Text, long[0].Lines[0]) {
		t.Error("FormatPatch: the text has the memory of an argument")
	}
	sizes := impl.SizesOf(hunks[0])
	sizes.List[0] = -1
	if impl.SizesOf(hunks[0]).List[0] == -1 {
		t.Error("two answers of SizesOf share their list")
	}

	wantNewHunks(t, "ReverseHunks", impl.ReverseHunks(hunks).Hunks, given)
	if !sameHunks(hunks, keptHunks) {
		t.Error("ReverseHunks shares lists with its argument")
	}
	wantNewHunks(t, "ParsePatch", impl.ParsePatch(text).Hunks, []string{text})
	wantNewHunks(t, "HunksOf", hunks, slices.Concat(a, b))
	if !slices.Equal(a, append(numbered(0, 30), "31")) || !sameHunks(impl.HunksOf(a, b, 2).Hunks, keptHunks) {
		t.Error("HunksOf shares memory with its arguments or its answers")
	}
}
