package tests

import (
	"fmt"
	"maps"
	"math"
	"math/rand"
	"slices"
	"strconv"
	"strings"
	"testing"

	"loop.example/g00172/impl"
)

// wrongLeasts: what least may not be.
var wrongLeasts = []int64{math.MinInt64, -1000, -1, 0, 1001, 1002, 1<<32 + 500, math.MaxInt64}

// scoreByWords reckons with whole numbers alone.
func scoreByWords(a string, b string) impl.IntResult {
	lines := make([][]string, 2)
	for i, text := range []string{a, b} {
		if code, _ := idByWords(impl.KindBlob, text); code != impl.OK {
			return impl.IntResult{Code: code}
		}
		lines[i] = slices.DeleteFunc(strings.SplitAfter(text, "\n"), func(line string) bool { return line == "" })
	}
	switch {
	case a == b:
		return impl.IntResult{Value: 1000}
	case strings.Contains(a, "\x00"), strings.Contains(b, "\x00"):
		return impl.IntResult{}
	}
	return impl.IntResult{Value: int64(2 * commonByTable(lines[0], lines[1]) * 1000 / (len(lines[0]) + len(lines[1])))}
}

// aloneByWords: the texts of the files that the others have not, by their paths; false, if one is not there.
func aloneByWords(store []impl.Object, files []impl.File, others []impl.File) (map[string]string, bool) {
	texts := map[string]string{}
	held := byPaths(others)
	for _, file := range files {
		if _, both := held[file.Path]; both {
			continue
		}
		got := getByWords(store, impl.KindBlob, file.Id)
		if got.Code != impl.OK {
			return nil, false
		}
		texts[file.Path] = got.Object.Data
	}
	return texts, true
}

// movesByWords goes over all pairs that are left, over and over.
func movesByWords(store []impl.Object, a []impl.File, b []impl.File, least int64) impl.MovesResult {
	for _, code := range []int64{storeFaultByWords(store), filesFaultByWords(a), filesFaultByWords(b)} {
		if code != impl.OK {
			return impl.MovesResult{Code: code}
		}
	}
	if least < 1 || least > 1000 {
		return impl.MovesResult{Code: impl.ErrRange}
	}
	gone, okA := aloneByWords(store, a, b)
	came, okB := aloneByWords(store, b, a)
	if !okA || !okB {
		return impl.MovesResult{Code: impl.ErrNone}
	}
	scores := map[[2]string]int64{}
	for from, old := range gone {
		for to, new := range came {
			scores[[2]string{from, to}] = scoreByWords(old, new).Value
		}
	}
	var moves []impl.Move
	for {
		best := impl.Move{}
		for _, from := range slices.Sorted(maps.Keys(gone)) {
			for _, to := range slices.Sorted(maps.Keys(came)) {
				if score := scores[[2]string{from, to}]; score >= least && score > best.Score {
					best = impl.Move{From: from, To: to, Score: score}
				}
			}
		}
		if best.Score == 0 {
			break
		}
		moves = append(moves, best)
		delete(gone, best.From)
		delete(came, best.To)
	}
	slices.SortFunc(moves, func(a impl.Move, b impl.Move) int { return strings.Compare(a.From, b.From) })
	return impl.MovesResult{Moves: moves}
}

func movesTextByWords(moves []impl.Move) impl.TextResult {
	if len(moves) > maxFiles {
		return impl.TextResult{Code: impl.ErrMany}
	}
	text := ""
	for _, move := range moves {
		if pathFaultByWords(move.From) != impl.OK || pathFaultByWords(move.To) != impl.OK {
			return impl.TextResult{Code: impl.ErrForm}
		}
		if move.Score < 0 || move.Score > 1000 {
			return impl.TextResult{Code: impl.ErrRange}
		}
		text += fmt.Sprintf("%s -> %s %d\n", move.From, move.To, move.Score)
	}
	return impl.TextResult{Text: text}
}

func sameMovesResult(a impl.MovesResult, b impl.MovesResult) bool {
	return a.Code == b.Code && slices.Equal(a.Moves, b.Moves)
}

// wantScore asks promise 9 of two texts, and answers their score.
func wantScore(t *testing.T, name string, a string, b string) int64 {
	t.Helper()
	got, want := impl.ScoreTexts(a, b), scoreByWords(a, b)
	if got != want {
		t.Errorf("%s: ScoreTexts = %#v, want %#v", name, got, want)
	}
	if back := impl.ScoreTexts(b, a); back != got {
		t.Errorf("%s: back the score is %#v, forth %#v", name, back, got)
	}
	if got.Code == impl.OK && (got.Value == 1000) != (a == b) {
		t.Errorf("%s: the score is %d", name, got.Value)
	}
	return got.Value
}

// wantMoves asks promise 9 of two lists of files.
func wantMoves(t *testing.T, name string, store []impl.Object, a []impl.File, b []impl.File, least int64) impl.MovesResult {
	t.Helper()
	got, want := impl.MovesOf(store, a, b, least), movesByWords(store, a, b, least)
	if !sameMovesResult(got, want) {
		t.Errorf("%s: MovesOf = %#v, want %#v", name, got, want)
	}
	if got.Code != impl.OK {
		if got.Moves != nil {
			t.Errorf("%s: moves beside the code %d", name, got.Code)
		}
		return got
	}
	wantNoFileTwice(t, name, store, a, b, least, got.Moves)
	return got
}

func wantNoFileTwice(t *testing.T, name string, store []impl.Object, a []impl.File, b []impl.File, least int64, moves []impl.Move) {
	t.Helper()
	inA, inB := byPaths(a), byPaths(b)
	for i, move := range moves {
		from, isGone := inA[move.From]
		to, came := inB[move.To]
		_, stays := inB[move.From]
		_, was := inA[move.To]
		if !isGone || !came || stays || was {
			t.Errorf("%s: %v is no pair of files", name, move)
		}
		score := impl.ScoreTexts(impl.GetObject(store, 1, from.Id).Object.Data, impl.GetObject(store, 1, to.Id).Object.Data)
		if score != (impl.IntResult{Value: move.Score}) || move.Score < least {
			t.Errorf("%s: %v has the score %#v, least is %d", name, move, score, least)
		}
		for _, other := range moves[:i] {
			if other.From >= move.From || other.To == move.To {
				t.Errorf("%s: %v stands behind %v", name, move, other)
			}
		}
		if impl.FollowPath(moves, move.From) != move.To || impl.BackPath(moves, move.To) != move.From {
			t.Errorf("%s: who follows %v does not come back", name, move)
		}
	}
}

// barred: the text that is told with a bar for each line feed, as the document's examples are.
func barred(text string) string {
	return strings.ReplaceAll(text, "|", "\n")
}

// textFiles: files of the texts told, each as its path, "=", and the text with a bar for each line feed; and their blobs.
func textFiles(told ...string) ([]impl.File, []impl.Object) {
	var files []impl.File
	var blobs []impl.Object
	for _, one := range told {
		path, text, _ := strings.Cut(one, "=")
		blob := objectOf(impl.KindBlob, barred(text))
		files = append(files, impl.File{Path: path, Mode: impl.ModeFile, Id: blob.Id})
		blobs = append(blobs, blob)
	}
	return files, blobs
}

// movesBetween: what the files of the texts told in a and in b have for moves, as MovesText tells it.
func movesBetween(t *testing.T, name string, a []string, b []string, least int64) string {
	t.Helper()
	filesA, blobsA := textFiles(a...)
	filesB, blobsB := textFiles(b...)
	r := wantMoves(t, name, storeOnce(slices.Concat(blobsA, blobsB)...), filesA, filesB, least)
	text := impl.MovesText(r.Moves)
	if r.Code != impl.OK || text.Code != impl.OK {
		t.Errorf("%s: the codes are %d and %d", name, r.Code, text.Code)
	}
	return text.Text
}

func TestScoreTexts(t *testing.T) {
	hundred := strings.Join(numbered(1, maxLines), "")
	other := strings.Join(numbered(maxLines+1, 2*maxLines), "")
	for _, c := range []struct {
		name, a, b string
		want       int64
	}{
		{"both empty", "", "", 1000},
		{"one empty", "", "a", 0},
		{"one empty, the other a line feed", "", "|", 0},
		{"one line feed", "|", "|", 1000},
		{"one line feed and two", "|", "||", 666},
		{"the same", "a|b|", "a|b|", 1000},
		{"the same, and open", "a|b", "a|b", 1000},
		{"the last line feed alone, one line", "a", "a|", 0},
		{"the last line feed alone, two lines", "a|b", "a|b|", 500},
		{"the last line feed alone, three lines", "a|b|c", "a|b|c|", 666},
		{"the last line feed is a line", "a|", "a||", 666},
		{"no line in common", "a|b|", "c|d|", 0},
		{"two of three", "1|2|3|", "1|2|4|", 666},
		{"one of three", "1|2|3|", "4|2|5|", 333},
		{"in other orders", "a|b|", "b|a|", 500},
		{"twice the same lines", "a|b|", "a|b|a|b|", 666},
		{"one and nine", "a|", "a|b|c|d|e|f|g|h|i|", 200},
		{"rounded down from 285.7", "a|b|c|", "a|x|y|z|", 285},
		{"rounded down from 857.1", "a|b|c|", "a|b|c|d|", 857},
		{"rounded down from 18.1", "a|" + strings.Repeat("b|", 54), "a|" + strings.Repeat("c|", 54), 18},
		{"as many lines as may be, the same", hundred, hundred, 1000},
		{"as many lines as may be, no line in common", hundred, other, 0},
		{"as many lines as may be, one in common", hundred, numbered(1, 1)[0] + strings.Join(numbered(maxLines+2, 2*maxLines), ""), 10},
		{"as many lines as may be, one other", hundred, strings.Join(numbered(2, maxLines), "") + "x|", 990},
		{"as many lines as may be, and one less", hundred, strings.Join(numbered(1, maxLines-1), ""), 994},
		{"as many lines as may be, and one", strings.Repeat("|", maxLines), "|", 19},
		{"one binary", "a|b|\x00", "a|b|", 0},
		{"one binary, a zero in the first line", "\x00|b|c|d|", "a|b|c|d|", 0},
		{"binary, and empty", "\x00", "", 0},
		{"both binary, the same", "a|\x00|", "a|\x00|", 1000},
		{"both binary, a zero alone", "\x00", "\x00", 1000},
		{"both binary, others", "a|b|c|\x00", "a|b|c|\x00\x00", 0},
		{"both binary, the last line feed alone", "a|b|\x00", "a|b|\x00|", 0},
		{"no binary", "a|\x01|\xff", "a|\x01|\xfe", 666},
		{"lines that end with other bytes", "a\r|b|", "a|b|", 500},
	} {
		if got := wantScore(t, c.name, barred(c.a), barred(c.b)); got != c.want {
			t.Errorf("%s: the score is %d, want %d", c.name, got, c.want)
		}
	}
}

func TestPromise9EveryTwoSmallTexts(t *testing.T) {
	var texts []string
	for _, lines := range smallTexts([]string{"a", "b", ""}, 4) {
		texts = append(texts, strings.Join(lines, ""))
	}
	texts = append(texts, "\x00", "\x00\n", "a\n\x00", "a\n\x00\n", "a\nb\n\x00b\n")
	for _, a := range texts {
		for _, b := range texts {
			wantScore(t, fmt.Sprintf("%q and %q", a, b), a, b)
		}
	}
}

func TestPromise9EveryScoreThatMayBe(t *testing.T) {
	for all := 1; all <= 2*maxLines; all++ {
		for common := 0; 2*common <= all; common++ {
			longer := min(maxLines, all-common)
			a := strings.Repeat("a\n", common) + strings.Repeat("b\n", longer-common)
			b := strings.Repeat("a\n", common) + strings.Repeat("c\n", all-longer-common)
			want := impl.IntResult{Value: int64(2000 * common / all)}
			if got := impl.ScoreTexts(a, b); got != want {
				t.Errorf("%d lines of %d in common: ScoreTexts = %#v, want %#v", common, all, got, want)
			}
			if back := impl.ScoreTexts(b, a); back != want {
				t.Errorf("%d lines of %d in common: back ScoreTexts = %#v, want %#v", common, all, back, want)
			}
		}
	}
}

func TestPromise9RandomTexts(t *testing.T) {
	random := rand.New(rand.NewSource(9))
	for round := range 300 {
		a := randomLines(random, 1+random.Intn(12), random.Intn(maxLines+1))
		b := randomLines(random, 1+random.Intn(12), random.Intn(maxLines+1))
		if round%2 == 0 && len(a) > 0 {
			b = changedAt(a, random.Intn(len(a)), random.Intn(len(a)))
		}
		wantScore(t, fmt.Sprintf("round %d", round), strings.Join(a, ""), strings.Join(b, ""))
	}
}

func TestScoreOfTextsWithAFault(t *testing.T) {
	many := impl.IntResult{Code: impl.ErrMany}
	wrong := []string{strings.Repeat("a", maxText+1), strings.Repeat("\n", maxLines+1), strings.Repeat("\n", maxLines) + "a", strings.Repeat("\x00", maxText+1), strings.Repeat("a\n", 500000)}
	for _, text := range wrong {
		for _, other := range slices.Concat(wrong, []string{"", "a\n", "\x00", text[:maxLines]}) {
			if r := impl.ScoreTexts(text, other); r != many {
				t.Errorf("%.20q and %.20q: ScoreTexts = %#v", text, other, r)
			}
			if r := impl.ScoreTexts(other, text); r != many {
				t.Errorf("%.20q and %.20q: ScoreTexts = %#v", other, text, r)
			}
		}
	}
	for _, text := range dataAtBounds() {
		for _, other := range dataAtBounds() {
			wantScore(t, fmt.Sprintf("%.20q and %.20q", text, other), text, other)
		}
	}
}

func TestWhichPairIsFirst(t *testing.T) {
	ten, nine := "1|2|3|4|5|6|7|8|9|10|", "1|2|3|4|5|6|7|8|9|x|"
	for _, c := range []struct {
		name  string
		a, b  []string
		least int64
		want  string
	}{
		{"no file", nil, nil, 1, ""},
		{"nothing came", []string{"a=1|"}, nil, 1, ""},
		{"nothing is gone", nil, []string{"a=1|"}, 1, ""},
		{"all stay", []string{"a=1|", "b=2|"}, []string{"a=2|", "b=1|"}, 1, ""},
		{"one that stays is no target", []string{"a=1|", "b=1|"}, []string{"b=1|"}, 1, ""},
		{"one that stays is no source", []string{"b=1|"}, []string{"a=1|", "b=1|"}, 1, ""},
		{"one moves", []string{"a=1|2|3|"}, []string{"b=1|2|4|"}, 500, "a -> b 666\n"},
		{"one moves ahead", []string{"b=1|2|3|"}, []string{"a=1|2|4|"}, 500, "b -> a 666\n"},
		{"one moves into a directory", []string{"a=1|"}, []string{"d/a=1|"}, 1000, "a -> d/a 1000\n"},
		{"one moves within its own name", []string{"a=1|"}, []string{"a/a=1|"}, 1000, "a -> a/a 1000\n"},
		{"least is the score", []string{"a=1|2|3|"}, []string{"b=1|2|4|"}, 666, "a -> b 666\n"},
		{"least is above the score", []string{"a=1|2|3|"}, []string{"b=1|2|4|"}, 667, ""},
		{"least of 1, no line in common", []string{"a=1|"}, []string{"b=2|"}, 1, ""},
		{"least of 1, few lines in common", []string{"a=1|" + strings.Repeat("y|", 99)}, []string{"b=1|" + strings.Repeat("z|", 99)}, 1, "a -> b 10\n"},
		{"least of 1000, nearly the same", []string{"a=" + ten}, []string{"b=" + nine}, 1000, ""},
		{"least of 1000, the same", []string{"a=" + ten, "b=" + nine}, []string{"c=" + nine, "d=" + nine}, 1000, "b -> c 1000\n"},
		{"texts of nothing", []string{"a=", "b="}, []string{"c="}, 1000, "a -> c 1000\n"},
		{"texts of nothing are like no other", []string{"a=", "b=|"}, []string{"c=1|", "d=||"}, 1, "b -> d 666\n"},
		{"texts of nothing go with their like", []string{"a=|", "b="}, []string{"c=", "d=|"}, 1, "a -> d 1000\nb -> c 1000\n"},
		{"binary texts go with themselves", []string{"a=x|\x00", "b=x|\x00|"}, []string{"c=x|\x00|", "d=x|"}, 1, "b -> c 1000\n"},
		{"of one score the least To", []string{"a=1|"}, []string{"b=1|", "c=1|"}, 1, "a -> b 1000\n"},
		{"of one score the least From", []string{"a=1|", "b=1|"}, []string{"c=1|"}, 1, "a -> c 1000\n"},
		{"of one score the least From, then the least To", []string{"c=1|", "d=1|"}, []string{"a=1|", "b=1|"}, 1, "c -> a 1000\nd -> b 1000\n"},
		{"least by bytes", []string{"a-=1|", "a0=1|", "a=1|"}[:2], []string{"a.=1|", "a/b=1|", "a_=1|"}, 1, "a- -> a. 1000\na0 -> a/b 1000\n"},
		{"one that begins another is less", []string{"x=1|"}, []string{"a-=1|", "aa=1|"}, 1, "x -> a- 1000\n"},
		{"the least From ahead of the least To", []string{"m=1|2|", "n=1|2|"}, []string{"a=1|x|", "b=1|2|"}, 1, "m -> b 1000\nn -> a 500\n"},
		{"the best for two others", []string{"a=1|2|3|", "b=1|2|3|4|"}, []string{"c=1|2|3|4|"}, 1, "b -> c 1000\n"},
		{"the best for two others, one takes what is left", []string{"a=1|2|3|", "b=1|2|3|4|"}, []string{"c=1|2|3|4|", "d=1|9|"}, 1, "a -> d 400\nb -> c 1000\n"},
		{"the best for two others, what is left is too little", []string{"a=1|2|3|", "b=1|2|3|4|"}, []string{"c=1|2|3|4|", "d=1|9|"}, 401, "b -> c 1000\n"},
		{"two for which one is the best, of one score", []string{"a=1|2|3|x|", "b=1|2|3|y|"}, []string{"c=1|2|3|", "d=1|2|"}, 1, "a -> c 857\nb -> d 666\n"},
		{"a chain: each wants what the next one takes", []string{"a=1|2|", "b=1|2|3|", "c=1|2|3|4|"}, []string{"d=1|2|3|4|5|", "e=1|2|3|4|", "f=1|2|3|"}, 1, "a -> d 571\nb -> f 1000\nc -> e 1000\n"},
		{"a chain: the best pair is told last", []string{"a=1|2|3|x|", "b=1|2|y|", "c=1|2|3|"}, []string{"d=1|2|3|", "e=1|2|3|4|5|6|"}, 1, "a -> e 600\nc -> d 1000\n"},
		{"greedy: the sum would be more otherwise", []string{"a=1|2|3|4|5|6|", "b=1|2|3|4|5|"}, []string{"c=1|2|3|4|5|", "d=6|x|"}, 1, "a -> d 250\nb -> c 1000\n"},
		{"greedy: more could move otherwise", []string{"a=1|2|3|", "b=3|"}, []string{"c=1|2|", "d=3|1|2|"}, 400, "a -> c 800\nb -> d 500\n"},
		{"greedy: the best leaves two alone", []string{"a=1|2|", "b=2|"}, []string{"c=1|2|", "d=1|"}, 1, "a -> c 1000\n"},
		{"one score, though one is more ahead of rounding", []string{"a=" + strings.Repeat("|", 99)}, []string{"b=" + strings.Repeat("|", 98), "c=" + strings.Repeat("|", 100)}, 1, "a -> b 994\n"},
		{"one score, the other way round", []string{"b=" + strings.Repeat("|", 98), "c=" + strings.Repeat("|", 100)}, []string{"a=" + strings.Repeat("|", 99)}, 994, "b -> a 994\n"},
		{"rounded down below least", []string{"b=" + strings.Repeat("|", 98), "c=" + strings.Repeat("|", 100)}, []string{"a=" + strings.Repeat("|", 99)}, 995, ""},
		{"some stay, some move", []string{"a=1|", "b=2|", "c=3|", "d=4|"}, []string{"b=5|", "c=3|", "e=4|", "f=1|"}, 1, "a -> f 1000\nd -> e 1000\n"},
	} {
		if got := movesBetween(t, c.name, c.a, c.b, c.least); got != c.want {
			t.Errorf("%s: the moves are %q, want %q", c.name, got, c.want)
		}
	}
}

func TestModesAreNoMatterToMoves(t *testing.T) {
	blob := objectOf(impl.KindBlob, "a")
	for _, modeA := range []int64{impl.ModeFile, impl.ModeRun} {
		for _, modeB := range []int64{impl.ModeFile, impl.ModeRun} {
			a, b := []impl.File{{Path: "a", Mode: modeA, Id: blob.Id}}, []impl.File{{Path: "b", Mode: modeB, Id: blob.Id}}
			r := wantMoves(t, fmt.Sprintf("modes %d and %d", modeA, modeB), []impl.Object{blob}, a, b, 1000)
			if !slices.Equal(r.Moves, []impl.Move{{From: "a", To: "b", Score: 1000}}) {
				t.Errorf("modes %d and %d: %#v", modeA, modeB, r)
			}
			if r := wantMoves(t, "it stays", []impl.Object{blob}, a, []impl.File{{Path: "a", Mode: modeB, Id: blob.Id}}, 1); len(r.Moves) > 0 {
				t.Errorf("modes %d and %d, one path: %#v", modeA, modeB, r)
			}
		}
	}
}

// everyFiles: every list of files at some of these paths, each with one of the texts.
func everyFiles(paths []string, texts []string) [][]impl.File {
	lists := [][]impl.File{nil}
	for _, path := range paths {
		for _, list := range slices.Clone(lists) {
			for _, text := range texts {
				lists = append(lists, append(slices.Clone(list), impl.File{Path: path, Mode: impl.ModeFile, Id: objectOf(impl.KindBlob, text).Id}))
			}
		}
	}
	return lists
}

func TestPromise9EveryTwoSmallLists(t *testing.T) {
	texts := []string{"", "1\n2\n", "1\n2\n3\n", "1\n4\n"}
	var store []impl.Object
	for _, text := range texts {
		store = storeOf(append(store, objectOf(impl.KindBlob, text))...)
	}
	moved := map[int]int{}
	for _, a := range everyFiles([]string{"b", "d", "e"}, texts) {
		// In the first lists one path may be in both.
		for _, b := range slices.Concat(everyFiles([]string{"a", "c", "d"}, texts[:3]), everyFiles([]string{"a", "c", "f"}, texts[:3])) {
			for _, least := range []int64{1, 667} {
				r := wantMoves(t, fmt.Sprintf("%v, %v, least %d", a, b, least), store, a, b, least)
				moved[len(r.Moves)]++
			}
		}
	}
	if len(moved) != 4 || moved[3] == 0 {
		t.Errorf("the lists do not reach all: %v", moved)
	}
}

// randomTexts: blobs of few lines, some of them much alike.
func randomTexts(random *rand.Rand, count int, most int) []impl.Object {
	var blobs []impl.Object
	for range count {
		lines := randomLines(random, 3, random.Intn(most+1))
		if len(blobs) > 0 && random.Intn(2) == 0 {
			lines = strings.SplitAfter(blobs[random.Intn(len(blobs))].Data, "\n")
			lines = append(slices.Clone(lines[:random.Intn(len(lines))]), randomLines(random, 3, random.Intn(3))...)
		}
		blob := objectOf(impl.KindBlob, strings.Join(lines, ""))
		if !slices.ContainsFunc(blobs, func(other impl.Object) bool { return other.Id == blob.Id }) {
			blobs = append(blobs, blob)
		}
	}
	return blobs
}

func TestPromise9RandomLists(t *testing.T) {
	random := rand.New(rand.NewSource(10))
	moved, left := 0, 0
	for round := range 400 {
		blobs := randomTexts(random, 1+random.Intn(12), 8)
		lists := [][]impl.File{randomFiles(random, 14, partingNames), randomFiles(random, 14, partingNames)}
		for _, files := range lists {
			for i := range files {
				files[i].Id = blobs[random.Intn(len(blobs))].Id
			}
		}
		for _, least := range []int64{1, 1 + random.Int63n(1000), 1000} {
			r := wantMoves(t, fmt.Sprintf("round %d, least %d", round, least), storeOf(blobs...), lists[0], lists[1], least)
			moved += len(r.Moves)
			left += min(len(lists[0]), len(lists[1])) - len(r.Moves)
		}
	}
	if moved < 1000 || left < 500 {
		t.Errorf("the lists do not reach all: %d files moved, %d did not", moved, left)
	}
}

func TestMovesOfAsManyFilesAsMayBe(t *testing.T) {
	random := rand.New(rand.NewSource(11))
	for round := range 4 {
		// In the first round all pairs are as good, in the next ones many are.
		blobs := randomTexts(random, 1+round*20, 6)
		if round == 3 {
			blobs = randomTexts(random, 40, maxLines-3)
		}
		a, b := fullFiles(maxFiles, 1), fullFiles(maxFiles, 1)
		for i := range maxFiles {
			a[i].Path, b[i].Path = "a"+a[i].Path, "b"+b[i].Path
			a[i].Id, b[i].Id = blobs[random.Intn(len(blobs))].Id, blobs[random.Intn(len(blobs))].Id
		}
		r := wantMoves(t, fmt.Sprintf("round %d", round), storeOf(blobs...), a, b, 1)
		if round == 0 {
			for i, move := range r.Moves {
				if move != (impl.Move{From: a[i].Path, To: b[i].Path, Score: 1000}) {
					t.Errorf("all pairs are as good: move %d is %v", i, move)
				}
			}
		}
		if len(r.Moves) < maxFiles/2 {
			t.Errorf("round %d: %d moves", round, len(r.Moves))
		}
		wantMoves(t, fmt.Sprintf("round %d back", round), storeOf(blobs...), b, a, 600)
	}
}

func TestMovesOfWhatHasAFault(t *testing.T) {
	good, wrongFiles := filesAt("a", "b/c"), faultyFiles()["mode of a tree"].files
	none := []impl.File{{Path: "z", Mode: 1, Id: "b1234"}}
	want := func(name string, store []impl.Object, a []impl.File, b []impl.File, least int64, code int64) {
		t.Helper()
		if r := wantMoves(t, name, store, a, b, least); !sameMovesResult(r, impl.MovesResult{Code: code}) {
			t.Errorf("%s: MovesOf = %#v, want %d", name, r, code)
		}
	}
	for name, c := range faultyStores() {
		for _, files := range [][]impl.File{nil, good, wrongFiles, none} {
			want(name, c.store, files, files, 500, c.code)
			want(name+", least too", c.store, files, nil, 0, c.code)
			want(name+", least too", c.store, nil, files, 1001, c.code)
		}
	}
	for name, c := range faultyFiles() {
		for _, files := range [][]impl.File{nil, good, none} {
			for _, least := range []int64{500, 0, 1001} {
				want(name+" in a", nil, c.files, files, least, c.code)
				want(name+" in b", nil, files, c.files, least, c.code)
			}
		}
		want(name+" in a, another in b", nil, c.files, wrongFiles, 500, c.code)
		want(name+" in b, another in a", nil, wrongFiles, c.files, 500, impl.ErrRange)
		want(name+" in a, too many in b", nil, c.files, make([]impl.File, maxFiles+1), 0, c.code)
	}
	for _, least := range wrongLeasts {
		for _, files := range [][]impl.File{nil, good, none} {
			want("least "+strconv.FormatInt(least, 10), nil, files, files, least, impl.ErrRange)
			want("least, and a blob that is not there", nil, files, nil, least, impl.ErrRange)
			want("least, and a blob that is not there", nil, nil, files, least, impl.ErrRange)
		}
	}
	for _, least := range []int64{1, 2, 500, 999, 1000} {
		want("a right least", nil, nil, nil, least, impl.OK)
		want("a right least, and a blob that is not there", nil, none, nil, least, impl.ErrNone)
	}
}

func TestMovesOfBlobsThatAreNotThere(t *testing.T) {
	blob := objectOf(impl.KindBlob, "a")
	here := func(path string) impl.File { return impl.File{Path: path, Mode: impl.ModeFile, Id: blob.Id} }
	away := func(path string, id string) impl.File { return impl.File{Path: path, Mode: impl.ModeFile, Id: id} }
	for _, c := range []struct {
		name string
		a, b []impl.File
		code int64
	}{
		{"of a alone", []impl.File{away("a", "b1234")}, []impl.File{here("b")}, impl.ErrNone},
		{"of b alone", []impl.File{here("a")}, []impl.File{away("b", "b1234")}, impl.ErrNone},
		{"of a alone, nothing to be paired with", []impl.File{away("a", "b1234")}, nil, impl.ErrNone},
		{"of b alone, nothing to be paired with", nil, []impl.File{away("b", "b1234")}, impl.ErrNone},
		{"of a alone, the others stay", []impl.File{away("a", "b1234"), here("b")}, []impl.File{here("b")}, impl.ErrNone},
		{"of b alone, the others stay", []impl.File{here("b")}, []impl.File{away("a", "b1234"), here("b")}, impl.ErrNone},
		{"the last one of a", []impl.File{here("a"), here("b"), away("c", "b1234")}, []impl.File{here("d")}, impl.ErrNone},
		{"the last one of b", []impl.File{here("d")}, []impl.File{here("a"), here("b"), away("c", "b1234")}, impl.ErrNone},
		{"the same id in both", []impl.File{away("a", "b1234")}, []impl.File{away("b", "b1234")}, impl.ErrNone},
		{"of both", []impl.File{away("a", "b1234")}, []impl.File{away("b", "b4321")}, impl.ErrNone},
		{"that both have", []impl.File{away("a", "b1234")}, []impl.File{away("a", "b1234")}, impl.OK},
		{"that both have, with others", []impl.File{away("a", "b1234"), here("b")}, []impl.File{away("a", "b1234"), here("c")}, impl.OK},
		{"that both have, of two ids", []impl.File{away("a", "b1234"), here("b")}, []impl.File{away("a", "b4321"), here("c")}, impl.OK},
		{"that both have, there in one alone", []impl.File{here("a")}, []impl.File{away("a", "b4321")}, impl.OK},
		{"that both have, and one that a alone has", []impl.File{away("a", "b1234"), away("b", "b1234")}, []impl.File{away("a", "b1234"), here("c")}, impl.ErrNone},
		{"all are there", []impl.File{here("a")}, []impl.File{here("b")}, impl.OK},
	} {
		// A tree and a commit with the same digest are no blobs.
		others := []impl.Object{blob, objectOf(impl.KindTree, "x"), objectOf(impl.KindCommit, "x")}
		for _, least := range []int64{1, 1000} {
			if r := wantMoves(t, c.name, storeOf(others...), c.a, c.b, least); r.Code != c.code {
				t.Errorf("%s: %d, want %d", c.name, r.Code, c.code)
			}
		}
	}
	kept := objectOf(impl.KindBlob, "x")
	for _, kind := range []int64{impl.KindTree, impl.KindCommit} {
		if r := wantMoves(t, "of another kind", storeOf(objectOf(kind, "x"), blob), []impl.File{away("a", kept.Id)}, nil, 1); r.Code != impl.ErrNone {
			t.Errorf("of another kind: %d", r.Code)
		}
	}
}

func TestFollowPathAndBackPath(t *testing.T) {
	moves := []impl.Move{{From: "a", To: "b", Score: 1}, {From: "b", To: "c", Score: 1000}, {From: "a", To: "d"}, {From: "e", To: "c"}, {From: "f", To: "f"}, {From: "", To: "g", Score: -1}, {From: "h", To: "", Score: 2000}, {From: "a/", To: "\x00", Score: math.MinInt64}, {From: "\xff", To: "..", Score: math.MaxInt64}}
	for _, c := range []struct{ path, forth, back string }{
		{"a", "b", "a"}, {"b", "c", "a"}, {"c", "c", "b"}, {"d", "d", "a"}, {"e", "c", "e"}, {"f", "f", "f"}, {"g", "g", ""}, {"", "g", "h"}, {"h", "", "h"},
		{"a/", "\x00", "a/"}, {"\x00", "\x00", "a/"}, {"\xff", "..", "\xff"}, {"..", "..", "\xff"}, {"n", "n", "n"}, {"A", "A", "A"}, {"aa", "aa", "aa"}, {"a ", "a ", "a "}, {strings.Repeat("a", 100000), strings.Repeat("a", 100000), strings.Repeat("a", 100000)},
	} {
		if got := impl.FollowPath(moves, c.path); got != c.forth {
			t.Errorf("FollowPath(%.20q) = %.20q, want %.20q", c.path, got, c.forth)
		}
		if got := impl.BackPath(moves, c.path); got != c.back {
			t.Errorf("BackPath(%.20q) = %.20q, want %.20q", c.path, got, c.back)
		}
		for _, none := range [][]impl.Move{nil, {}} {
			if impl.FollowPath(none, c.path) != c.path || impl.BackPath(none, c.path) != c.path {
				t.Errorf("without a move %.20q is another path", c.path)
			}
		}
	}
	// One step alone is gone, though another move begins where it ends.
	chain := make([]impl.Move, 100000)
	for i := range chain {
		chain[i] = impl.Move{From: strconv.Itoa(i), To: strconv.Itoa(i + 1)}
	}
	if got := impl.FollowPath(chain, "99999"); got != "100000" {
		t.Errorf("FollowPath of many moves = %q", got)
	}
	if got := impl.BackPath(chain, "1"); got != "0" {
		t.Errorf("BackPath of many moves = %q", got)
	}
}

func TestPathsOfEverySmallListOfMoves(t *testing.T) {
	words := []string{"a", "b", ""}
	var pool []impl.Move
	for _, from := range words {
		for _, to := range words {
			pool = append(pool, impl.Move{From: from, To: to})
		}
	}
	lists := [][]impl.Move{nil}
	for _, one := range pool {
		for _, other := range pool {
			lists = append(lists, []impl.Move{one}, []impl.Move{one, other}, []impl.Move{one, other, pool[1]}, []impl.Move{one, other, pool[5]})
		}
	}
	for _, moves := range lists {
		for _, path := range append(words, "c") {
			// From the last one on, so that the first one stays.
			forth, back := path, path
			for _, move := range slices.Backward(moves) {
				if move.From == path {
					forth = move.To
				}
				if move.To == path {
					back = move.From
				}
			}
			if impl.FollowPath(moves, path) != forth || impl.BackPath(moves, path) != back {
				t.Errorf("%v: from %q to %q, back to %q", moves, path, impl.FollowPath(moves, path), impl.BackPath(moves, path))
			}
		}
	}
}

// fullMoves: so many moves, with the longest paths that may be.
func fullMoves(count int) []impl.Move {
	var moves []impl.Move
	for i := range count {
		ahead := strings.Repeat("aaaaaaaaaaaa/", maxParts-1)
		moves = append(moves, impl.Move{From: fmt.Sprintf("%sf%011d", ahead, i), To: fmt.Sprintf("%st%011d", ahead, i), Score: 1000 - int64(i)})
	}
	return moves
}

func TestMovesText(t *testing.T) {
	form, wrong, many := int64(impl.ErrForm), int64(impl.ErrRange), int64(impl.ErrMany)
	good := impl.Move{From: "a", To: "b/c", Score: 500}
	for _, c := range []struct {
		name  string
		moves []impl.Move
		code  int64
		text  string
	}{
		{"nil", nil, impl.OK, ""},
		{"none", []impl.Move{}, impl.OK, ""},
		{"one", []impl.Move{good}, impl.OK, "a -> b/c 500\n"},
		{"the same twice", []impl.Move{good, good}, impl.OK, "a -> b/c 500\na -> b/c 500\n"},
		{"not rising", []impl.Move{{From: "z", To: "a", Score: 1}, {From: "a", To: "z", Score: 2}}, impl.OK, "z -> a 1\na -> z 2\n"},
		{"to itself", []impl.Move{{From: "a", To: "a", Score: 7}}, impl.OK, "a -> a 7\n"},
		{"a score of 0", []impl.Move{{From: "a", To: "b", Score: 0}}, impl.OK, "a -> b 0\n"},
		{"a score of 1000", []impl.Move{{From: "a", To: "b", Score: 1000}}, impl.OK, "a -> b 1000\n"},
		{"paths with marks", []impl.Move{{From: "-", To: "-.-/_", Score: 10}}, impl.OK, "- -> -.-/_ 10\n"},
		{"a score of -1", []impl.Move{{From: "a", To: "b", Score: -1}}, wrong, ""},
		{"a score of 1001", []impl.Move{{From: "a", To: "b", Score: 1001}}, wrong, ""},
		{"the least score", []impl.Move{{From: "a", To: "b", Score: math.MinInt64}}, wrong, ""},
		{"the greatest score", []impl.Move{{From: "a", To: "b", Score: math.MaxInt64}}, wrong, ""},
		{"a score of more than 32 bits", []impl.Move{{From: "a", To: "b", Score: 1<<32 + 1}}, wrong, ""},
		{"a zero move", make([]impl.Move, 1), form, ""},
		{"no From", []impl.Move{{To: "b", Score: 5}}, form, ""},
		{"no To", []impl.Move{{From: "a", Score: 5}}, form, ""},
		{"a wrong From, a wrong score", []impl.Move{{From: "/", To: "b", Score: 5000}}, form, ""},
		{"a wrong To, a wrong score", []impl.Move{{From: "a", To: "b/", Score: -5}}, form, ""},
		{"five names in From", []impl.Move{{From: "a/b/c/d/e", To: "b", Score: 5}}, form, ""},
		{"five names in To", []impl.Move{{From: "a/b/c/d", To: "a/b/c/d/e", Score: 5}}, form, ""},
		{"a wrong score ahead of a wrong path", []impl.Move{good, {From: "a", To: "b", Score: -1}, {From: ".", To: "b"}}, wrong, ""},
		{"a wrong score ahead of a wrong To", []impl.Move{{From: "a", To: "b", Score: -1}, {From: "a", To: ".."}}, wrong, ""},
		{"a wrong path ahead of a wrong score", []impl.Move{good, {From: "a", To: "A"}, {From: "a", To: "b", Score: -1}}, form, ""},
		{"the last one wrong", append(fullMoves(maxFiles-1), impl.Move{From: "a", To: "b", Score: 1001}), wrong, ""},
		{"too many", fullMoves(maxFiles + 1), many, ""},
		{"too many, the first one wrong", append(make([]impl.Move, 1), fullMoves(maxFiles)...), many, ""},
		{"too many, the last one wrong", append(fullMoves(maxFiles), impl.Move{From: "a", To: "b", Score: -1}), many, ""},
		{"far too many", make([]impl.Move, 100000), many, ""},
	} {
		if r := impl.MovesText(c.moves); r != (impl.TextResult{Code: c.code, Text: c.text}) || r != movesTextByWords(c.moves) {
			t.Errorf("%s: MovesText = %#v, want %d, %q", c.name, r, c.code, c.text)
		}
	}
	full := fullMoves(maxFiles)
	if r := impl.MovesText(full); r.Code != impl.OK || r != movesTextByWords(full) || strings.Count(r.Text, "\n") != maxFiles {
		t.Errorf("as many as may be: MovesText = %#v", r)
	}
}

func TestMovesTextOfEverySmallList(t *testing.T) {
	var pool []impl.Move
	for _, from := range []string{"a", "b/c", "", "a/"} {
		for _, to := range []string{"a", "x y", "b/c"} {
			for _, score := range []int64{-1, 0, 1000, 1001} {
				pool = append(pool, impl.Move{From: from, To: to, Score: score})
			}
		}
	}
	codes := map[int64]int{}
	for _, one := range pool {
		for _, other := range pool {
			for _, third := range pool[:4] {
				moves := []impl.Move{one, other, third}
				r := impl.MovesText(moves)
				if r != movesTextByWords(moves) {
					t.Errorf("%v: MovesText = %#v", moves, r)
				}
				codes[r.Code]++
			}
		}
	}
	if len(codes) != 3 || codes[impl.OK] == 0 || codes[impl.ErrForm] == 0 || codes[impl.ErrRange] == 0 {
		t.Errorf("the lists do not reach all: %v", codes)
	}
	for score := int64(-3); score <= 1003; score++ {
		moves := []impl.Move{{From: "a", To: "b", Score: score}}
		if r := impl.MovesText(moves); r != movesTextByWords(moves) {
			t.Errorf("a score of %d: MovesText = %#v", score, r)
		}
	}
	for _, path := range slices.Concat(spoilt("ab/cd", spoilers), []string{strings.Repeat("a", 13), strings.Repeat("/", 100000)}) {
		for _, moves := range [][]impl.Move{{{From: path, To: "b"}}, {{From: "a", To: path}}} {
			if r := impl.MovesText(moves); r != movesTextByWords(moves) {
				t.Errorf("%v: MovesText = %#v", moves, r)
			}
		}
	}
}

// movedCase: two lists of files with their store.
type movedCase struct {
	store []impl.Object
	a, b  []impl.File
	least int64
}

// anyMoved: what may be asked for its moves, with and without faults.
func anyMoved() []movedCase {
	random := rand.New(rand.NewSource(12))
	var cases []movedCase
	for i, least := range []int64{1, 400, 1000, 0} {
		blobs := randomTexts(random, 10, 6)
		a, b := fullFiles(8+i, 2), fullFiles(9, 1)
		for j := range a {
			a[j].Id = blobs[j%len(blobs)].Id
		}
		for j := range b {
			b[j].Id = blobs[j*3%len(blobs)].Id
		}
		cases = append(cases, movedCase{storeOf(blobs...), a, b, least}, movedCase{storeOf(blobs...), b, a, least}, movedCase{storeOf(blobs[1:]...), a, b, least})
	}
	stores, lists := anyStores(), anyFiles()
	for i := range 40 {
		cases = append(cases, movedCase{stores[i%len(stores)], lists[i*3%len(lists)], lists[i*5%len(lists)], int64(i) * 30})
	}
	return cases
}

func anyMoves() [][]impl.Move {
	return [][]impl.Move{nil, {}, {{From: "a", To: "b", Score: 5}}, {{From: "a", To: "b", Score: 5}, {From: "b", To: "a", Score: 5}, {From: "a", To: "c"}}, fullMoves(maxFiles), fullMoves(maxFiles + 1), make([]impl.Move, 3), {{From: "a/b", To: "", Score: -1}}}
}

// tellMoves: what all functions of chapter 8 answer to these arguments, in words.
func tellMoves(c movedCase, moves []impl.Move, path string, a string, b string) string {
	return fmt.Sprintf("%#v %#v %q %q %#v", impl.ScoreTexts(a, b), impl.MovesOf(c.store, c.a, c.b, c.least), impl.FollowPath(moves, path), impl.BackPath(moves, path), impl.MovesText(moves))
}

func TestPromise1MovesHangOnTheArgumentsAlone(t *testing.T) {
	cases, moves, texts := anyMoved(), anyMoves(), anyTexts()
	paths := []string{"a", "b", "c", "a/b", "", "/"}
	tell := func(i int) string {
		c := cases[i%len(cases)]
		c.store, c.a, c.b = slices.Clone(c.store), slices.Clone(c.a), slices.Clone(c.b)
		return tellMoves(c, slices.Clone(moves[i%len(moves)]), strings.Clone(paths[i%len(paths)]), strings.Clone(texts[i%len(texts)]), strings.Clone(texts[i*7%len(texts)]))
	}
	answers := make([]string, 250)
	for i := range answers {
		answers[i] = tell(i)
	}
	// Backwards each call stands behind other ones than before.
	for i := len(answers) - 1; i >= 0; i-- {
		if tell(i) != answers[i] {
			t.Errorf("round %d: another answer at the second call", i)
		}
	}
}

func TestPromise1MovesChangeNoArgument(t *testing.T) {
	cases, lists := anyMoved(), anyMoves()
	for i := range 250 {
		// What lies behind a list in its memory is not the function's either.
		c := cases[i%len(cases)]
		store := append(slices.Clone(c.store), impl.Object{Id: "behind", Kind: 7})
		a, b := append(slices.Clone(c.a), impl.File{Path: "behind"}), append(slices.Clone(c.b), impl.File{Path: "behind"})
		moves := append(slices.Clone(lists[i%len(lists)]), impl.Move{From: "behind"})
		keptStore, keptA, keptB, keptMoves := slices.Clone(store), slices.Clone(a), slices.Clone(b), slices.Clone(moves)
		tellMoves(movedCase{store[:len(store)-1], a[:len(a)-1], b[:len(b)-1], c.least}, moves[:len(moves)-1], "a", "a\nb", "b\n")
		if !slices.Equal(store, keptStore) || !slices.Equal(a, keptA) || !slices.Equal(b, keptB) || !slices.Equal(moves, keptMoves) {
			t.Errorf("round %d: a list was changed, or what lies behind it", i)
		}
	}
}

func TestPromise1MovesAreNewMemory(t *testing.T) {
	for i, c := range anyMoved()[:6] {
		given := slices.Concat(textsOfStore(c.store), textsOfFiles(c.a...), textsOfFiles(c.b...))
		r := impl.MovesOf(c.store, c.a, c.b, c.least)
		var texts []string
		for _, move := range r.Moves {
			texts = append(texts, move.From, move.To)
		}
		wantNewTexts(t, fmt.Sprintf("MovesOf, case %d", i), given, texts)
		kept := slices.Clone(r.Moves)
		for j := range r.Moves {
			r.Moves[j] = impl.Move{}
		}
		if again := impl.MovesOf(c.store, c.a, c.b, c.least); !slices.Equal(again.Moves, kept) {
			t.Errorf("case %d: an answer shares its list with another one", i)
		}
	}
	moves := []impl.Move{{From: strings.Repeat("a", 3), To: strings.Repeat("b", 3), Score: 5}}
	for _, path := range []string{moves[0].From, moves[0].To, strings.Repeat("a", 3), strings.Repeat("b", 3), strings.Repeat("c", 3)} {
		given := []string{path, moves[0].From, moves[0].To}
		wantNewTexts(t, "FollowPath", given, []string{impl.FollowPath(moves, path)})
		wantNewTexts(t, "BackPath", given, []string{impl.BackPath(moves, path)})
		wantNewTexts(t, "without a move", given, []string{impl.FollowPath(nil, path), impl.BackPath(nil, path)})
	}
	wantNewTexts(t, "MovesText", []string{moves[0].From, moves[0].To}, []string{impl.MovesText(moves).Text, impl.MovesText(moves).Text})
}
