package tests

import (
	"fmt"
	"math"
	"math/rand"
	"slices"
	"strings"
	"testing"

	"loop.example/g00172/impl"
)

// linesOf: a line of each word, all with a line feed, but the last one where the words end in a stroke.
func linesOf(words string) []string {
	var lines []string
	for _, word := range strings.Fields(strings.TrimSuffix(words, "/")) {
		lines = append(lines, word+"\n")
	}
	if strings.HasSuffix(words, "/") {
		lines[len(lines)-1] = strings.TrimSuffix(lines[len(lines)-1], "\n")
	}
	return lines
}

// smallTexts: the lines of every text of at most length lines of these letters, with and without the last line feed.
func smallTexts(letters []string, length int) [][]string {
	var lines []string
	for _, letter := range letters {
		lines = append(lines, letter+"\n")
	}
	lists := listsOver(lines, length)
	for _, list := range lists {
		if len(list) > 0 {
			cut := slices.Clone(list)
			cut[len(cut)-1] = strings.TrimSuffix(cut[len(cut)-1], "\n")
			lists = append(lists, cut)
		}
	}
	return lists
}

func randomLines(random *rand.Rand, letters int, count int) []string {
	lines := make([]string, count)
	for i := range lines {
		lines[i] = string(rune('a'+random.Intn(letters))) + "\n"
	}
	if count > 0 && random.Intn(3) == 0 {
		lines[count-1] = strings.TrimSuffix(lines[count-1], "\n")
	}
	return lines
}

func isWithin(few []string, many []string) bool {
	for _, line := range many {
		if len(few) > 0 && few[0] == line {
			few = few[1:]
		}
	}
	return len(few) == 0
}

// commonByTrial tries every choice of lines of a: for short lists alone.
func commonByTrial(a []string, b []string) int {
	best := 0
	for choice := range 1 << len(a) {
		var chosen []string
		for i, line := range a {
			if choice>>i&1 == 1 {
				chosen = append(chosen, line)
			}
		}
		if len(chosen) > best && isWithin(chosen, b) {
			best = len(chosen)
		}
	}
	return best
}

// commonByTable goes from the first lines on, and keeps all it reckons: for lists of any length.
func commonByTable(a []string, b []string) int {
	table := make([][]int, len(a)+1)
	for i := range table {
		table[i] = make([]int, len(b)+1)
		for j := range table[i] {
			switch {
			case i == 0 || j == 0:
			case a[i-1] == b[j-1]:
				table[i][j] = table[i-1][j-1] + 1
			default:
				table[i][j] = max(table[i-1][j], table[i][j-1])
			}
		}
	}
	return table[len(a)][len(b)]
}

// matchByWords goes the walk of the document, word by word.
func matchByWords(a []string, b []string, common func([]string, []string) int) ([]int64, []int64) {
	var placesA, placesB []int64
	i, j := 0, 0
	for i < len(a) && j < len(b) {
		if a[i] == b[j] {
			placesA, placesB = append(placesA, int64(i)), append(placesB, int64(j))
			i, j = i+1, j+1
		} else if common(a[i+1:], b[j:]) >= common(a[i:], b[j+1:]) {
			i++
		} else {
			j++
		}
	}
	return placesA, placesB
}

// changesByMarks marks the lines that are chosen, and looks for runs of those that are not.
func changesByMarks(a []string, b []string, placesA []int64, placesB []int64) []impl.Change {
	var changes []impl.Change
	i, j := int64(0), int64(0)
	for i < int64(len(a)) || j < int64(len(b)) {
		if slices.Contains(placesA, i) && slices.Contains(placesB, j) {
			i, j = i+1, j+1
			continue
		}
		change := impl.Change{AtA: i, AtB: j}
		for ; i < int64(len(a)) && !slices.Contains(placesA, i); i++ {
			change.DelA++
		}
		for ; j < int64(len(b)) && !slices.Contains(placesB, j); j++ {
			change.InsB++
		}
		changes = append(changes, change)
	}
	return changes
}

// checkDiff holds all that chapter 2 says of two lists without a fault against what is reckoned here.
func checkDiff(t *testing.T, a []string, b []string, common func([]string, []string) int) {
	t.Helper()
	count := int64(common(a, b))
	if r := impl.CommonOf(a, b); r != (impl.IntResult{Value: count}) {
		t.Fatalf("CommonOf(%q, %q) = %+v, want %d", a, b, r, count)
	}
	placesA, placesB := matchByWords(a, b, common)
	match := impl.MatchLines(a, b)
	if match.Code != impl.OK || !slices.Equal(match.A, placesA) || !slices.Equal(match.B, placesB) {
		t.Fatalf("MatchLines(%q, %q) = %+v, want %d and %d", a, b, match, placesA, placesB)
	}
	if int64(len(match.A)) != count {
		t.Fatalf("MatchLines(%q, %q) chooses %d of %d lines", a, b, len(match.A), count)
	}
	want := changesByMarks(a, b, placesA, placesB)
	told := impl.ChangesOf(a, b)
	if told.Code != impl.OK || !slices.Equal(told.Changes, want) {
		t.Fatalf("ChangesOf(%q, %q) = %+v, want %+v", a, b, told, want)
	}
	edits := int64(len(a)+len(b)) - 2*count
	if r := impl.EditCount(a, b); r != (impl.IntResult{Value: edits}) {
		t.Fatalf("EditCount(%q, %q) = %+v, want %d", a, b, r, edits)
	}
	if code := impl.ChangesFault(a, b, told.Changes); code != impl.OK {
		t.Fatalf("ChangesFault(%q, %q, %+v) = %d", a, b, told.Changes, code)
	}
	woven := impl.WeaveChanges(a, b, told.Changes)
	if woven.Code != impl.OK || !slices.Equal(woven.Lines, b) {
		t.Fatalf("WeaveChanges(%q, %q, %+v) = %+v", a, b, told.Changes, woven)
	}
}

func TestPromise3EveryTwoSmallTexts(t *testing.T) {
	for _, lists := range [][][]string{smallTexts([]string{"a", "b"}, 5), smallTexts([]string{"a", "b", "c"}, 3)} {
		for _, a := range lists {
			for _, b := range lists {
				checkDiff(t, a, b, commonByTrial)
			}
		}
	}
}

func TestPromise3LongTexts(t *testing.T) {
	random := rand.New(rand.NewSource(2))
	for round := range 60 {
		a := randomLines(random, 1+round%9, random.Intn(20))
		b := randomLines(random, 1+round%9, random.Intn(20))
		checkDiff(t, a, b, commonByTable)
	}
	for round := range 4 {
		checkDiff(t, randomLines(random, 2+round, 60), randomLines(random, 2+round, 55), commonByTable)
	}
}

func TestDiffsAtTheirBounds(t *testing.T) {
	random := rand.New(rand.NewSource(3))
	same := slices.Repeat([]string{"a\n"}, maxLines)
	others := slices.Repeat([]string{"b\n"}, maxLines)
	cut := append(slices.Clone(same[1:]), "a")
	cases := []struct {
		name   string
		a, b   []string
		common int
	}{
		{"all the same", same, slices.Clone(same), maxLines},
		{"nothing in common", same, others, 0},
		{"the last line without line feed", same, cut, maxLines - 1},
		{"the last line without line feed, turned round", cut, same, maxLines - 1},
		{"nothing to MaxLines", nil, same, 0},
		{"MaxLines to nothing", same, nil, 0},
		{"MaxLines to one", same, []string{"a\n"}, 1},
		{"one to MaxLines", []string{"a\n"}, same, 1},
		{"MaxLines mixed", randomLines(random, 3, maxLines), randomLines(random, 3, maxLines), -1},
		{"MaxText bytes", []string{strings.Repeat("a", maxText)}, []string{strings.Repeat("a", maxText)}, 1},
		{"MaxText bytes but for the last", []string{strings.Repeat("a", maxText)}, []string{strings.Repeat("a", maxText-1) + "\n"}, 0},
	}
	for _, c := range cases {
		if c.common < 0 {
			c.common = commonByTable(c.a, c.b)
		}
		count := impl.CommonOf(c.a, c.b)
		match := impl.MatchLines(c.a, c.b)
		if count.Code != impl.OK || count.Value != int64(c.common) || match.Code != impl.OK || len(match.A) != c.common || len(match.B) != c.common {
			t.Errorf("%s: CommonOf %+v, MatchLines %+v, want %d", c.name, count, match, c.common)
		}
		for k, i := range match.A {
			if c.a[i] != c.b[match.B[k]] || k > 0 && (i <= match.A[k-1] || match.B[k] <= match.B[k-1]) {
				t.Errorf("%s: lines %d and %d are chosen", c.name, i, match.B[k])
			}
		}
		edits := impl.EditCount(c.a, c.b)
		if edits.Code != impl.OK || edits.Value != int64(len(c.a)+len(c.b)-2*c.common) {
			t.Errorf("%s: EditCount %+v", c.name, edits)
		}
		told := impl.ChangesOf(c.a, c.b)
		woven := impl.WeaveChanges(c.a, c.b, told.Changes)
		if told.Code != impl.OK || woven.Code != impl.OK || !slices.Equal(woven.Lines, c.b) {
			t.Errorf("%s: the changes %+v make %+v", c.name, told, woven)
		}
	}
}

func TestMatchedLinesAndChanges(t *testing.T) {
	cases := []struct {
		name    string
		a, b    string
		placesA []int64
		placesB []int64
		changes []impl.Change
	}{
		{"both empty", "", "", nil, nil, nil},
		{"nothing to one", "", "a", nil, nil, []impl.Change{{AtA: 0, DelA: 0, AtB: 0, InsB: 1}}},
		{"one to nothing", "a", "", nil, nil, []impl.Change{{AtA: 0, DelA: 1, AtB: 0, InsB: 0}}},
		{"the same", "a b", "a b", []int64{0, 1}, []int64{0, 1}, nil},
		{"nothing in common", "a b", "c d e", nil, nil, []impl.Change{{AtA: 0, DelA: 2, AtB: 0, InsB: 3}}},
		{"the document's", "a b c", "b c d", []int64{1, 2}, []int64{0, 1}, []impl.Change{{AtA: 0, DelA: 1}, {AtA: 3, DelA: 0, AtB: 2, InsB: 1}}},
		{"in the middle", "a b c", "a x y c", []int64{0, 2}, []int64{0, 3}, []impl.Change{{AtA: 1, DelA: 1, AtB: 1, InsB: 2}}},
		{"at both ends", "x b y", "b", []int64{1}, []int64{0}, []impl.Change{{AtA: 0, DelA: 1, AtB: 0, InsB: 0}, {AtA: 2, DelA: 1, AtB: 1, InsB: 0}}},
		{"turned round: a's line goes first", "x y", "y x", []int64{1}, []int64{0}, []impl.Change{{AtA: 0, DelA: 1}, {AtA: 2, DelA: 0, AtB: 1, InsB: 1}}},
		{"turned round, the other way", "y x", "x y", []int64{1}, []int64{0}, []impl.Change{{AtA: 0, DelA: 1}, {AtA: 2, DelA: 0, AtB: 1, InsB: 1}}},
		{"as good either way: the line of a goes", "x y z", "y x z", []int64{1, 2}, []int64{0, 2}, []impl.Change{{AtA: 0, DelA: 1}, {AtA: 2, DelA: 0, AtB: 1, InsB: 1}}},
		{"the first of two in b", "a", "a a", []int64{0}, []int64{0}, []impl.Change{{AtA: 1, DelA: 0, AtB: 1, InsB: 1}}},
		{"the first of two in a", "a a", "a", []int64{0}, []int64{0}, []impl.Change{{AtA: 1, DelA: 1, AtB: 1, InsB: 0}}},
		{"the first of several, with others between", "a b a c a", "a", []int64{0}, []int64{0}, []impl.Change{{AtA: 1, DelA: 4, AtB: 1, InsB: 0}}},
		{"b's lines go where more may be chosen so", "a b c", "x y a b c", []int64{0, 1, 2}, []int64{2, 3, 4}, []impl.Change{{AtA: 0, DelA: 0, AtB: 0, InsB: 2}}},
		{"lines that come several times", "a b c a b b a", "c b a b a c", []int64{2, 4, 5, 6}, []int64{0, 1, 3, 4}, []impl.Change{{AtA: 0, DelA: 2}, {AtA: 3, DelA: 1, AtB: 1, InsB: 0}, {AtA: 5, DelA: 0, AtB: 2, InsB: 1}, {AtA: 7, DelA: 0, AtB: 5, InsB: 1}}},
		{"a last line without line feed in a", "a b/", "a b", []int64{0}, []int64{0}, []impl.Change{{AtA: 1, DelA: 1, AtB: 1, InsB: 1}}},
		{"a last line without line feed in b", "a b", "a b/", []int64{0}, []int64{0}, []impl.Change{{AtA: 1, DelA: 1, AtB: 1, InsB: 1}}},
		{"a last line without line feed in both", "a b/", "c b/", []int64{1}, []int64{1}, []impl.Change{{AtA: 0, DelA: 1, AtB: 0, InsB: 1}}},
		{"a line more behind one without line feed", "a/", "a b/", nil, nil, []impl.Change{{AtA: 0, DelA: 1, AtB: 0, InsB: 2}}},
	}
	for _, c := range cases {
		a, b := linesOf(c.a), linesOf(c.b)
		match := impl.MatchLines(a, b)
		if match.Code != impl.OK || !slices.Equal(match.A, c.placesA) || !slices.Equal(match.B, c.placesB) {
			t.Errorf("%s: MatchLines = %+v, want %d and %d", c.name, match, c.placesA, c.placesB)
		}
		if told := impl.ChangesOf(a, b); told.Code != impl.OK || !slices.Equal(told.Changes, c.changes) {
			t.Errorf("%s: ChangesOf = %+v, want %+v", c.name, told, c.changes)
		}
	}
}

func TestPromise3NoWayOverThirdLinesIsShorter(t *testing.T) {
	lists := smallTexts([]string{"a", "b"}, 3)
	random := rand.New(rand.NewSource(4))
	for range 12 {
		lists = append(lists, randomLines(random, 3, 5+random.Intn(10)))
	}
	counts := make([][]int64, len(lists))
	for i, a := range lists {
		for _, b := range lists {
			counts[i] = append(counts[i], impl.EditCount(a, b).Value)
		}
	}
	for i := range lists {
		for j := range lists {
			if counts[i][j] != counts[j][i] || (counts[i][j] == 0) != slices.Equal(lists[i], lists[j]) {
				t.Fatalf("EditCount of %q and %q is %d, turned round %d", lists[i], lists[j], counts[i][j], counts[j][i])
			}
			for k := range lists {
				if counts[i][j] > counts[i][k]+counts[k][j] {
					t.Fatalf("from %q to %q it is shorter over %q", lists[i], lists[j], lists[k])
				}
			}
		}
	}
}

func TestNilAndEmptyListsAreTheSame(t *testing.T) {
	for _, a := range [][]string{nil, {}} {
		for _, b := range [][]string{nil, {}, {"a"}} {
			checkDiff(t, a, b, commonByTrial)
			checkDiff(t, b, a, commonByTrial)
			for _, changes := range [][]impl.Change{nil, {}} {
				if r := impl.WeaveChanges(b, a, changes); r.Code != impl.OK || !slices.Equal(r.Lines, b) {
					t.Errorf("WeaveChanges(%q, %q) with no change = %+v", b, a, r)
				}
			}
		}
	}
}

// faultyLists: lists with a fault of each kind, and the code of it.
func faultyLists() map[string]struct {
	lines []string
	code  int64
} {
	type faulty = struct {
		lines []string
		code  int64
	}
	return map[string]faulty{
		"an empty line":             {[]string{"a\n", ""}, impl.ErrForm},
		"a line feed within":        {[]string{"a\nb\n"}, impl.ErrForm},
		"no line feed, not last":    {[]string{"a", "b\n"}, impl.ErrForm},
		"too many lines":            {slices.Repeat([]string{"\n"}, maxLines+1), impl.ErrMany},
		"far too many lines":        {make([]string, 100000), impl.ErrMany},
		"too many bytes":            {[]string{strings.Repeat("a", maxText+1)}, impl.ErrMany},
		"too many bytes, two lines": {[]string{strings.Repeat("a", maxText-1) + "\n", "a"}, impl.ErrMany},
	}
}

// wantCodeAlone: every function of the chapter answers this code, and nothing beside it.
func wantCodeAlone(t *testing.T, name string, a []string, b []string, changes []impl.Change, code int64) {
	t.Helper()
	if r := impl.MatchLines(a, b); r.Code != code || r.A != nil || r.B != nil {
		t.Errorf("%s: MatchLines = %+v, want %d", name, r, code)
	}
	if r := impl.CommonOf(a, b); r != (impl.IntResult{Code: code}) {
		t.Errorf("%s: CommonOf = %+v, want %d", name, r, code)
	}
	if r := impl.ChangesOf(a, b); r.Code != code || r.Changes != nil {
		t.Errorf("%s: ChangesOf = %+v, want %d", name, r, code)
	}
	if r := impl.EditCount(a, b); r != (impl.IntResult{Code: code}) {
		t.Errorf("%s: EditCount = %+v, want %d", name, r, code)
	}
	if got := impl.ChangesFault(a, b, changes); got != code {
		t.Errorf("%s: ChangesFault = %d, want %d", name, got, code)
	}
	if r := impl.WeaveChanges(a, b, changes); r.Code != code || r.Lines != nil {
		t.Errorf("%s: WeaveChanges = %+v, want %d", name, r, code)
	}
}

func TestLinesWithAFaultOfAAheadOfB(t *testing.T) {
	wrong := []impl.Change{{AtA: -1}}
	for nameA, one := range faultyLists() {
		for _, good := range [][]string{nil, {"a\n", "b"}} {
			for _, changes := range [][]impl.Change{nil, wrong} {
				wantCodeAlone(t, nameA+" in a", one.lines, good, changes, one.code)
				wantCodeAlone(t, nameA+" in b", good, one.lines, changes, one.code)
			}
		}
		for nameB, other := range faultyLists() {
			wantCodeAlone(t, nameA+" in a, "+nameB+" in b", one.lines, other.lines, wrong, one.code)
		}
	}
}

func TestChangesFault(t *testing.T) {
	const low, high = math.MinInt64, math.MaxInt64
	a, b := linesOf("a b c d e"), linesOf("a x c y e z")
	good := impl.Change{AtA: 1, DelA: 1, AtB: 1, InsB: 1}
	cases := []struct {
		name    string
		changes []impl.Change
		code    int64
	}{
		{"no change", nil, impl.OK},
		{"one", []impl.Change{good}, impl.OK},
		{"all of both", []impl.Change{{AtA: 0, DelA: 5, AtB: 0, InsB: 6}}, impl.OK},
		{"at the ends of both", []impl.Change{{AtA: 0, DelA: 0, AtB: 0, InsB: 1}, {AtA: 5, DelA: 0, AtB: 6, InsB: 0}}, impl.ErrForm},
		{"behind the last line of a", []impl.Change{{AtA: 5, DelA: 0, AtB: 5, InsB: 1}}, impl.OK},
		{"behind the last line of b", []impl.Change{{AtA: 0, DelA: 0, AtB: 0, InsB: 2}, {AtA: 4, DelA: 1, AtB: 6, InsB: 0}}, impl.OK},
		{"AtA below 0", []impl.Change{{AtA: -1, DelA: 1, AtB: 0, InsB: 1}}, impl.ErrRange},
		{"DelA below 0", []impl.Change{{AtA: 1, DelA: -1, AtB: 1, InsB: 1}}, impl.ErrRange},
		{"AtB below 0", []impl.Change{{AtA: 0, DelA: 1, AtB: -1, InsB: 1}}, impl.ErrRange},
		{"InsB below 0", []impl.Change{{AtA: 1, DelA: 1, AtB: 1, InsB: -1}}, impl.ErrRange},
		{"all below 0", []impl.Change{{AtA: -1, DelA: -1, AtB: -1, InsB: -1}}, impl.ErrRange},
		{"a line more than a has", []impl.Change{{AtA: 1, DelA: 5, AtB: 1, InsB: 1}}, impl.ErrRange},
		{"a line more than b has", []impl.Change{{AtA: 1, DelA: 1, AtB: 1, InsB: 6}}, impl.ErrRange},
		{"lines of a as far as it goes", []impl.Change{{AtA: 1, DelA: 4, AtB: 1, InsB: 5}}, impl.OK},
		{"a place beyond the end of a, no lines", []impl.Change{{AtA: 6, DelA: 0, AtB: 5, InsB: 1}}, impl.ErrRange},
		{"a place beyond the end of b, no lines", []impl.Change{{AtA: 1, DelA: 1, AtB: 7, InsB: 0}}, impl.ErrRange},
		{"AtA at the upper end", []impl.Change{{AtA: high, DelA: 1, AtB: 1, InsB: 1}}, impl.ErrRange},
		{"DelA at the upper end", []impl.Change{{AtA: 1, DelA: high, AtB: 1, InsB: 1}}, impl.ErrRange},
		{"AtB at the upper end", []impl.Change{{AtA: 1, DelA: 1, AtB: high, InsB: 1}}, impl.ErrRange},
		{"InsB at the upper end", []impl.Change{{AtA: 1, DelA: 1, AtB: 1, InsB: high}}, impl.ErrRange},
		{"all at the upper end", []impl.Change{{AtA: high, DelA: high, AtB: high, InsB: high}}, impl.ErrRange},
		{"AtA at the lower end", []impl.Change{{AtA: low, DelA: 1, AtB: 1, InsB: 1}}, impl.ErrRange},
		{"DelA at the lower end", []impl.Change{{AtA: 1, DelA: low, AtB: 1, InsB: 1}}, impl.ErrRange},
		{"AtB at the lower end", []impl.Change{{AtA: 1, DelA: 1, AtB: low, InsB: 1}}, impl.ErrRange},
		{"InsB at the lower end", []impl.Change{{AtA: 1, DelA: 1, AtB: 1, InsB: low}}, impl.ErrRange},
		{"both ends, 0 together", []impl.Change{{AtA: low, DelA: high, AtB: high, InsB: low}}, impl.ErrRange},
		{"nothing goes and nothing comes", []impl.Change{{AtA: 1, DelA: 0, AtB: 1, InsB: 0}}, impl.ErrForm},
		{"the zero value", []impl.Change{{}}, impl.ErrForm},
		{"nothing goes and nothing comes, and out of range", []impl.Change{{AtA: 9, DelA: 0, AtB: 9, InsB: 0}}, impl.ErrRange},
		{"the first not as far in a as in b", []impl.Change{{AtA: 1, DelA: 1, AtB: 0, InsB: 1}}, impl.ErrForm},
		{"the first not as far in b as in a", []impl.Change{{AtA: 0, DelA: 1, AtB: 1, InsB: 1}}, impl.ErrForm},
		{"the second one above", []impl.Change{good, {AtA: 3, DelA: 1, AtB: 3, InsB: 1}}, impl.OK},
		{"the second where the first ends", []impl.Change{good, {AtA: 2, DelA: 1, AtB: 2, InsB: 1}}, impl.ErrForm},
		{"the second where the first ends, in a", []impl.Change{good, {AtA: 2, DelA: 1, AtB: 3, InsB: 1}}, impl.ErrForm},
		{"the second where the first ends, in b", []impl.Change{good, {AtA: 3, DelA: 1, AtB: 2, InsB: 1}}, impl.ErrForm},
		{"the second within the first", []impl.Change{{AtA: 1, DelA: 3, AtB: 1, InsB: 3}, {AtA: 2, DelA: 1, AtB: 2, InsB: 1}}, impl.ErrForm},
		{"the second ahead of the first", []impl.Change{{AtA: 3, DelA: 1, AtB: 3, InsB: 1}, good}, impl.ErrForm},
		{"the same twice", []impl.Change{good, good}, impl.ErrForm},
		{"the second not as far in a as in b", []impl.Change{good, {AtA: 4, DelA: 1, AtB: 3, InsB: 1}}, impl.ErrForm},
		{"the second as far, by the lengths of the first", []impl.Change{{AtA: 1, DelA: 0, AtB: 1, InsB: 2}, {AtA: 3, DelA: 1, AtB: 5, InsB: 0}}, impl.OK},
		{"the second at the same places, the lengths differ", []impl.Change{{AtA: 1, DelA: 0, AtB: 1, InsB: 1}, {AtA: 3, DelA: 1, AtB: 3, InsB: 0}}, impl.ErrForm},
		{"the second out of range, the first has no form", []impl.Change{{}, {AtA: -1}}, impl.ErrForm},
		{"the second has no form, the first is out of range", []impl.Change{{AtA: -1}, {}}, impl.ErrRange},
		{"the second out of range and not above", []impl.Change{good, {AtA: 1, DelA: 9, AtB: 1, InsB: 1}}, impl.ErrRange},
		{"the third out of range", []impl.Change{good, {AtA: 3, DelA: 1, AtB: 3, InsB: 1}, {AtA: 5, DelA: 1, AtB: 5, InsB: 1}}, impl.ErrRange},
		{"three", []impl.Change{good, {AtA: 3, DelA: 1, AtB: 3, InsB: 1}, {AtA: 5, DelA: 0, AtB: 5, InsB: 1}}, impl.OK},
	}
	for _, c := range cases {
		if code := impl.ChangesFault(a, b, c.changes); code != c.code {
			t.Errorf("%s: ChangesFault = %d, want %d", c.name, code, c.code)
		}
		r := impl.WeaveChanges(a, b, c.changes)
		if r.Code != c.code || r.Code != impl.OK && r.Lines != nil {
			t.Errorf("%s: WeaveChanges = %+v, want %d", c.name, r, c.code)
		}
	}
}

// faultByWords asks of each change what the document asks, one question at a time.
func faultByWords(a []string, b []string, changes []impl.Change) int64 {
	for i, c := range changes {
		if c.AtA < 0 || c.DelA < 0 || c.AtB < 0 || c.InsB < 0 {
			return impl.ErrRange
		}
		if c.AtA+c.DelA > int64(len(a)) || c.AtB+c.InsB > int64(len(b)) {
			return impl.ErrRange
		}
		if c.DelA == 0 && c.InsB == 0 {
			return impl.ErrForm
		}
		if i == 0 {
			if c.AtA != c.AtB {
				return impl.ErrForm
			}
			continue
		}
		ahead := changes[i-1]
		farA, farB := c.AtA-(ahead.AtA+ahead.DelA), c.AtB-(ahead.AtB+ahead.InsB)
		if farA <= 0 || farB <= 0 || farA != farB {
			return impl.ErrForm
		}
	}
	return impl.OK
}

// weaveByWords marks what goes and what comes ahead of which line.
func weaveByWords(a []string, b []string, changes []impl.Change) []string {
	var lines []string
	for i := int64(0); i <= int64(len(a)); i++ {
		goes := i == int64(len(a))
		for _, c := range changes {
			if c.AtA == i {
				lines = append(lines, b[c.AtB:c.AtB+c.InsB]...)
			}
			goes = goes || c.AtA <= i && i < c.AtA+c.DelA
		}
		if !goes {
			lines = append(lines, a[i])
		}
	}
	return lines
}

func everySmallChange(most int64) []impl.Change {
	var changes []impl.Change
	for number := range (most + 2) * (most + 2) * (most + 2) * (most + 2) {
		digit := func() int64 {
			d := number % (most + 2)
			number /= most + 2
			return d - 1
		}
		changes = append(changes, impl.Change{AtA: digit(), DelA: digit(), AtB: digit(), InsB: digit()})
	}
	return changes
}

func TestEveryOneAndTwoSmallChanges(t *testing.T) {
	a, b := linesOf("a b c"), linesOf("x y/")
	lists := [][]impl.Change{}
	for _, c := range everySmallChange(4) {
		lists = append(lists, []impl.Change{c})
		if faultByWords(a, b, lists[len(lists)-1]) != impl.OK {
			continue
		}
		for _, d := range everySmallChange(4) {
			lists = append(lists, []impl.Change{c, d})
		}
	}
	good := 0
	for _, changes := range lists {
		code := faultByWords(a, b, changes)
		if got := impl.ChangesFault(a, b, changes); got != code {
			t.Fatalf("ChangesFault of %+v = %d, want %d", changes, got, code)
		}
		var want []string
		if code == impl.OK {
			good++
			want = weaveByWords(a, b, changes)
			if code = impl.LinesFault(want); code != impl.OK {
				want = nil
			}
		}
		if r := impl.WeaveChanges(a, b, changes); r.Code != code || !slices.Equal(r.Lines, want) {
			t.Fatalf("WeaveChanges with %+v = %+v, want %d %q", changes, r, code, want)
		}
	}
	if good < 20 {
		t.Fatalf("%d lists of changes have no fault", good)
	}
}

func TestWeaveChanges(t *testing.T) {
	full := slices.Repeat([]string{"a\n"}, maxLines)
	long := []string{strings.Repeat("a", maxText-1) + "\n"}
	cases := []struct {
		name    string
		a, b    []string
		changes []impl.Change
		code    int64
		lines   []string
	}{
		{"lines that stay are those of a", linesOf("a b c"), linesOf("x y z"), []impl.Change{{AtA: 1, DelA: 1, AtB: 1, InsB: 1}}, impl.OK, linesOf("a y c")},
		{"all goes, nothing comes", linesOf("a b"), nil, []impl.Change{{AtA: 0, DelA: 2}}, impl.OK, nil},
		{"a line comes ahead of all", linesOf("a"), linesOf("x"), []impl.Change{{InsB: 1}}, impl.OK, linesOf("x a")},
		{"a line comes behind all", linesOf("a"), linesOf("x y"), []impl.Change{{AtA: 1, AtB: 1, InsB: 1}}, impl.OK, linesOf("a y")},
		{"two changes", linesOf("a b c d"), linesOf("x y z w"), []impl.Change{{DelA: 1, InsB: 2}, {AtA: 2, DelA: 2, AtB: 3, InsB: 1}}, impl.OK, linesOf("x y b w")},
		{"behind a line without line feed", linesOf("a/"), linesOf("x y"), []impl.Change{{AtA: 1, AtB: 1, InsB: 1}}, impl.ErrForm, nil},
		{"a line without line feed ahead of others", linesOf("a b"), linesOf("x/"), []impl.Change{{DelA: 1, InsB: 1}}, impl.ErrForm, nil},
		{"a line without line feed last", linesOf("a b"), linesOf("x y/"), []impl.Change{{AtA: 1, DelA: 1, AtB: 1, InsB: 1}}, impl.OK, linesOf("a y/")},
		{"more than MaxLines lines", full, linesOf("x"), []impl.Change{{InsB: 1}}, impl.ErrMany, nil},
		{"twice MaxLines lines", full, full, []impl.Change{{InsB: maxLines}}, impl.ErrMany, nil},
		{"MaxLines lines", full, linesOf("x"), []impl.Change{{DelA: 1, InsB: 1}}, impl.OK, append([]string{"x\n"}, full[1:]...)},
		{"more than MaxText bytes", long, []string{"\n"}, []impl.Change{{InsB: 1}}, impl.ErrMany, nil},
		{"MaxText bytes", []string{long[0][1:]}, []string{"\n"}, []impl.Change{{InsB: 1}}, impl.OK, []string{"\n", long[0][1:]}},
		{"too many and without line feed", full, linesOf("x/"), []impl.Change{{InsB: 1}}, impl.ErrMany, nil},
	}
	for _, c := range cases {
		if code := impl.ChangesFault(c.a, c.b, c.changes); code != impl.OK {
			t.Errorf("%s: ChangesFault = %d", c.name, code)
		}
		r := impl.WeaveChanges(c.a, c.b, c.changes)
		if r.Code != c.code || !slices.Equal(r.Lines, c.lines) || r.Code != impl.OK && r.Lines != nil {
			t.Errorf("%s: WeaveChanges = %d %q, want %d %q", c.name, r.Code, r.Lines, c.code, c.lines)
		}
	}
}

// tellDiffs: what all functions of chapter 2 answer to these arguments, in words.
func tellDiffs(a []string, b []string, changes []impl.Change) string {
	return fmt.Sprintf("%+v %+v %+v %+v %+v %d", impl.MatchLines(a, b), impl.CommonOf(a, b), impl.ChangesOf(a, b), impl.EditCount(a, b), impl.WeaveChanges(a, b, changes), impl.ChangesFault(a, b, changes))
}

func TestPromise1DiffsHangOnTheArgumentsAlone(t *testing.T) {
	lists := anyLists()
	random := rand.New(rand.NewSource(5))
	for range 8 {
		lists = append(lists, randomLines(random, 3, random.Intn(maxLines)))
	}
	tell := func(i int) string {
		a, b := lists[i/len(lists)], lists[i%len(lists)]
		return tellDiffs(slices.Clone(a), slices.Clone(b), impl.ChangesOf(a, b).Changes)
	}
	answers := make([]string, len(lists)*len(lists))
	for i := range answers {
		answers[i] = tell(i)
	}
	// Backwards each call stands behind other ones than before.
	for i := len(answers) - 1; i >= 0; i-- {
		if tell(i) != answers[i] {
			t.Errorf("lists %d and %d: another answer at the second call", i/len(lists), i%len(lists))
		}
	}
}

func TestPromise1DiffsChangeNoArgument(t *testing.T) {
	lists := anyLists()
	for i, one := range lists {
		for j, other := range lists {
			// What lies behind a list in its memory is not the function's either.
			wideA, wideB := append(slices.Clone(one), "behind"), append(slices.Clone(other), "behind")
			a, b := wideA[:len(one)], wideB[:len(other)]
			wide := append(impl.ChangesOf(a, b).Changes, impl.Change{AtA: 1}, impl.Change{AtB: 7})
			keptA, keptB, kept := slices.Clone(wideA), slices.Clone(wideB), slices.Clone(wide)
			tellDiffs(a, b, wide[:len(wide)-2])
			tellDiffs(a, b, wide[:len(wide)-1])
			if !slices.Equal(wideA, keptA) || !slices.Equal(wideB, keptB) || !slices.Equal(wide, kept) {
				t.Errorf("an argument of lists %d and %d was changed", i, j)
			}
		}
	}
}

func TestPromise1DiffsAreNewMemory(t *testing.T) {
	a, b := linesOf("a b c d e"), linesOf("b x d y e")
	told := impl.ChangesOf(a, b)
	want := slices.Clone(told.Changes)
	woven := impl.WeaveChanges(a, b, told.Changes)
	for i, line := range woven.Lines {
		for _, given := range slices.Concat(a, b) {
			if sharesBytes(line, given) {
				t.Errorf("WeaveChanges: line %d has the memory of an argument", i)
			}
		}
	}
	whole := impl.WeaveChanges(a, b, nil)
	for i := range whole.Lines {
		whole.Lines[i] = "changed"
	}
	if !slices.Equal(a, linesOf("a b c d e")) {
		t.Error("WeaveChanges without changes hands its argument out")
	}
	told.Changes[0].AtA = 77
	if !slices.Equal(impl.ChangesOf(a, b).Changes, want) {
		t.Error("two answers of ChangesOf share their list")
	}
	match := impl.MatchLines(a, a)
	keptB := slices.Clone(match.B)
	for i := range match.A {
		match.A[i] = -1
	}
	match.A = append(match.A, -1)
	if !slices.Equal(match.B, keptB) || !slices.Equal(impl.MatchLines(a, a).A, keptB) {
		t.Error("lists of MatchLines share memory")
	}
}
