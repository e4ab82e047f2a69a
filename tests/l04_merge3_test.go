package tests

import (
	"fmt"
	"math"
	"math/rand"
	"slices"
	"strconv"
	"strings"
	"testing"

	"loop.example/g00172/impl"
)

const maxChunks = 201

func TestNumbersOfChunks(t *testing.T) {
	got := []int64{impl.ChunkSame, impl.ChunkOurs, impl.ChunkTheirs, impl.ChunkBoth, impl.ChunkClash}
	if !slices.Equal(got, []int64{0, 1, 2, 3, 4}) {
		t.Errorf("kinds of chunks: %d", got)
	}
}

// chunkOf: the lines of each side by linesOf.
func chunkOf(kind int64, base string, ours string, theirs string) impl.Chunk {
	return impl.Chunk{Kind: kind, Base: linesOf(base), Ours: linesOf(ours), Theirs: linesOf(theirs)}
}

func sameChunk(a impl.Chunk, b impl.Chunk) bool {
	return a.Kind == b.Kind && slices.Equal(a.Base, b.Base) && slices.Equal(a.Ours, b.Ours) && slices.Equal(a.Theirs, b.Theirs)
}

func sameChunks(a []impl.Chunk, b []impl.Chunk) bool {
	return slices.EqualFunc(a, b, sameChunk)
}

func cloneChunks(chunks []impl.Chunk) []impl.Chunk {
	clones := slices.Clone(chunks)
	for i, c := range clones {
		clones[i].Base, clones[i].Ours, clones[i].Theirs = slices.Clone(c.Base), slices.Clone(c.Ours), slices.Clone(c.Theirs)
	}
	return clones
}

// kindByWords asks of two sides at a time whether they are the same.
func kindByWords(c impl.Chunk) int64 {
	baseOurs, baseTheirs, oursTheirs := slices.Equal(c.Base, c.Ours), slices.Equal(c.Base, c.Theirs), slices.Equal(c.Ours, c.Theirs)
	if baseOurs && baseTheirs && oursTheirs {
		return 0
	}
	if baseTheirs {
		return 1
	}
	if baseOurs {
		return 2
	}
	if oursTheirs {
		return 3
	}
	return 4
}

// chunksByWords looks for each line of the base whether both sides chose it, and puts it behind what stands ahead of it on all sides.
func chunksByWords(base []string, ours []string, theirs []string) []impl.Chunk {
	placesO, inOurs := matchByWords(base, ours, commonByTable)
	placesT, inTheirs := matchByWords(base, theirs, commonByTable)
	var chunks []impl.Chunk
	add := func(c impl.Chunk) {
		if len(c.Base)+len(c.Ours)+len(c.Theirs) > 0 {
			c.Kind = kindByWords(c)
			chunks = append(chunks, c)
		}
	}
	i, j, k := 0, 0, 0
	isRunOpen := false
	for at := range base {
		o, th := slices.Index(placesO, int64(at)), slices.Index(placesT, int64(at))
		if o < 0 || th < 0 {
			continue
		}
		atO, atT := int(inOurs[o]), int(inTheirs[th])
		if at > i || atO > j || atT > k {
			add(impl.Chunk{Base: base[i:at], Ours: ours[j:atO], Theirs: theirs[k:atT]})
			isRunOpen = false
		}
		if !isRunOpen {
			chunks = append(chunks, impl.Chunk{})
			isRunOpen = true
		}
		last := &chunks[len(chunks)-1]
		last.Base, last.Ours, last.Theirs = append(last.Base, base[at]), append(last.Ours, ours[atO]), append(last.Theirs, theirs[atT])
		i, j, k = at+1, atO+1, atT+1
	}
	add(impl.Chunk{Base: base[i:], Ours: ours[j:], Theirs: theirs[k:]})
	return chunks
}

func swapByWords(chunks []impl.Chunk) []impl.Chunk {
	swapped := cloneChunks(chunks)
	for i, c := range swapped {
		swapped[i].Ours, swapped[i].Theirs = c.Theirs, c.Ours
		swapped[i].Kind = []int64{0, 2, 1, 3, 4}[c.Kind]
	}
	return swapped
}

// ended: each line with a line feed behind it, whether it had one or not.
func ended(lines []string) string {
	text := ""
	for _, line := range lines {
		text += strings.TrimSuffix(line, "\n") + "\n"
	}
	return text
}

func clashByWords(c impl.Chunk) string {
	return "<<<<<<<\n" + ended(c.Ours) + "|||||||\n" + ended(c.Base) + "=======\n" + ended(c.Theirs) + ">>>>>>>\n"
}

// mergeByWords puts the lines of all chunks together, and ends all of them but the last.
func mergeByWords(chunks []impl.Chunk) impl.MergeResult {
	var lines []string
	clashes := int64(0)
	for _, c := range chunks {
		switch c.Kind {
		case 2:
			lines = append(lines, c.Theirs...)
		case 4:
			lines = append(lines, strings.SplitAfter(strings.TrimSuffix(clashByWords(c), "\n"), "\n")...)
			lines[len(lines)-1] += "\n"
			clashes++
		default:
			lines = append(lines, c.Ours...)
		}
	}
	if len(lines) == 0 {
		return impl.MergeResult{}
	}
	last := len(lines) - 1
	text := ended(lines[:last]) + lines[last]
	if len(text) > maxText || len(lines) > maxLines {
		return impl.MergeResult{Code: impl.ErrMany}
	}
	return impl.MergeResult{Clashes: clashes, Text: text}
}

// checkMerge holds all that chapter 4 says of three texts without a fault, and promise 5, against what is reckoned here.
func checkMerge(t *testing.T, base []string, ours []string, theirs []string) {
	t.Helper()
	told := impl.ChunksOf(base, ours, theirs)
	want := chunksByWords(base, ours, theirs)
	if told.Code != impl.OK || !sameChunks(told.Chunks, want) {
		t.Fatalf("ChunksOf(%q, %q, %q) = %#v, want %#v", base, ours, theirs, told, want)
	}
	if code := impl.ChunksFault(told.Chunks); code != impl.OK {
		t.Fatalf("ChunksFault(%#v) = %d", told.Chunks, code)
	}
	for side, lines := range [][]string{base, ours, theirs} {
		if r := impl.WeaveSide(told.Chunks, int64(side)); r.Code != impl.OK || !slices.Equal(r.Lines, lines) {
			t.Fatalf("WeaveSide(%#v, %d) = %#v, want %q", told.Chunks, side, r, lines)
		}
	}
	turned := impl.SwapChunks(told.Chunks)
	if turned.Code != impl.OK || !sameChunks(turned.Chunks, swapByWords(told.Chunks)) {
		t.Fatalf("SwapChunks(%#v) = %#v", told.Chunks, turned)
	}
	if back := impl.ChunksOf(base, theirs, ours); back.Code != impl.OK || !sameChunks(back.Chunks, turned.Chunks) {
		t.Fatalf("ChunksOf(%q, %q, %q) = %#v, want %#v", base, theirs, ours, back, turned)
	}
	clashes := int64(0)
	for _, c := range told.Chunks {
		if c.Kind == impl.ChunkClash {
			clashes++
			if r := impl.ClashText(c); r != (impl.TextResult{Text: clashByWords(c)}) {
				t.Fatalf("ClashText(%#v) = %#v", c, r)
			}
		} else if r := impl.ClashText(c); r != (impl.TextResult{Code: impl.ErrForm}) {
			t.Fatalf("ClashText(%#v) = %#v", c, r)
		}
	}
	for _, chunks := range [][]impl.Chunk{told.Chunks, turned.Chunks} {
		if r := impl.CountClashes(chunks); r != (impl.IntResult{Value: clashes}) {
			t.Fatalf("CountClashes(%#v) = %+v, want %d", chunks, r, clashes)
		}
	}
	checkMergedTexts(t, strings.Join(base, ""), strings.Join(ours, ""), strings.Join(theirs, ""), mergeByWords(want))
}

func checkMergedTexts(t *testing.T, b string, o string, th string, want impl.MergeResult) {
	t.Helper()
	merged, turned := impl.MergeTexts(b, o, th), impl.MergeTexts(b, th, o)
	if merged != want {
		t.Fatalf("MergeTexts(%q, %q, %q) = %#v, want %#v", b, o, th, merged, want)
	}
	// A text is as long whoever's side is which, so both are too long or neither.
	if turned.Code != merged.Code || turned.Clashes != merged.Clashes || merged.Clashes == 0 && turned.Text != merged.Text {
		t.Fatalf("MergeTexts(%q, %q, %q) = %#v, turned round %#v", b, o, th, merged, turned)
	}
	// Where one side alone changed something, or both the same, there is one text to take.
	for _, one := range []struct {
		isSo bool
		text string
	}{{b == th, o}, {b == o, th}, {o == th, o}} {
		if one.isSo && merged != (impl.MergeResult{Text: one.text}) {
			t.Fatalf("MergeTexts(%q, %q, %q) = %#v, want %q", b, o, th, merged, one.text)
		}
	}
}

func TestPromise5EveryThreeSmallTexts(t *testing.T) {
	for _, lists := range [][][]string{smallTexts([]string{"a", "b"}, 3), smallTexts([]string{"a", "b", "c"}, 2), listsOver([]string{"a\n", "b\n"}, 4)} {
		for _, base := range lists {
			for _, ours := range lists {
				for _, theirs := range lists {
					checkMerge(t, base, ours, theirs)
				}
			}
		}
	}
}

// edited: some lines of it changed, gone, or with others ahead of them.
func edited(random *rand.Rand, lines []string, edits int) []string {
	made := slices.Clone(lines)
	for range edits {
		at := random.Intn(len(made) + 1)
		fresh := string(rune('a'+random.Intn(5))) + "\n"
		switch kind := random.Intn(6); {
		case kind < 2:
			made = slices.Delete(made, at, min(at+1+kind, len(made)))
		case kind < 4 && at < len(made):
			made[at] = fresh
		case len(made) < maxLines && (at < len(made) || at == 0 || strings.HasSuffix(made[at-1], "\n")):
			made = slices.Insert(made, at, fresh)
		}
	}
	if last := len(made) - 1; last >= 0 && random.Intn(4) == 0 {
		made[last] = strings.TrimSuffix(made[last], "\n")
	}
	return made
}

func TestPromise5LongTexts(t *testing.T) {
	random := rand.New(rand.NewSource(14))
	for round := range 400 {
		base := randomLines(random, 1+round%26, random.Intn(maxLines+1))
		if round%3 == 0 {
			base = numbered(1, random.Intn(maxLines+1))
		}
		checkMerge(t, base, edited(random, base, random.Intn(12)), edited(random, base, random.Intn(12)))
	}
	for round := range 100 {
		count := func() int { return random.Intn(maxLines + 1) }
		letters := 1 + round%26
		checkMerge(t, randomLines(random, letters, count()), randomLines(random, letters, count()), randomLines(random, letters, count()))
	}
}

func TestPromise5NilAndEmptyListsAreTheSame(t *testing.T) {
	lists := [][]string{nil, {}, {"a\n"}, {"b"}}
	for _, base := range lists {
		for _, ours := range lists {
			for _, theirs := range lists {
				checkMerge(t, base, ours, theirs)
			}
		}
	}
	for _, chunks := range [][]impl.Chunk{nil, {}} {
		if code := impl.ChunksFault(chunks); code != impl.OK {
			t.Errorf("ChunksFault of no chunks = %d", code)
		}
		if r := impl.SwapChunks(chunks); r.Code != impl.OK || len(r.Chunks) != 0 {
			t.Errorf("SwapChunks of no chunks = %+v", r)
		}
		for side := range int64(3) {
			if r := impl.WeaveSide(chunks, side); r.Code != impl.OK || len(r.Lines) != 0 {
				t.Errorf("WeaveSide of no chunks = %+v", r)
			}
		}
		if r := impl.CountClashes(chunks); r != (impl.IntResult{}) {
			t.Errorf("CountClashes of no chunks = %+v", r)
		}
	}
	filled := impl.Chunk{Kind: impl.ChunkBoth, Base: []string{"a\n"}, Ours: nil, Theirs: []string{}}
	if code := impl.ChunksFault([]impl.Chunk{filled}); code != impl.OK {
		t.Errorf("ChunksFault of nil on one side and an empty list on the other = %d", code)
	}
}

func TestChunksOf(t *testing.T) {
	const same, ours, theirs, both, clash = impl.ChunkSame, impl.ChunkOurs, impl.ChunkTheirs, impl.ChunkBoth, impl.ChunkClash
	type list = []impl.Chunk
	cases := []struct {
		name               string
		base, ours, theirs string
		chunks             list
	}{
		{"nothing", "", "", "", nil},
		{"all the same", "a b c", "a b c", "a b c", list{chunkOf(same, "a b c", "a b c", "a b c")}},
		{"the document's, without a clash", "1 2 3", "0 2 3", "1 2 4", list{chunkOf(ours, "1", "0", "1"), chunkOf(same, "2", "2", "2"), chunkOf(theirs, "3", "3", "4")}},
		{"the document's, with a clash", "1 2 3", "1 x 3", "1 2 4", list{chunkOf(same, "1", "1", "1"), chunkOf(clash, "2 3", "x 3", "2 4")}},
		{"no base, ours", "", "a", "", list{chunkOf(ours, "", "a", "")}},
		{"no base, theirs", "", "", "a", list{chunkOf(theirs, "", "", "a")}},
		{"no base, both alike", "", "a b", "a b", list{chunkOf(both, "", "a b", "a b")}},
		{"no base, otherwise", "", "a b", "a c", list{chunkOf(clash, "", "a b", "a c")}},
		{"all gone in ours", "a b", "", "a b", list{chunkOf(ours, "a b", "", "a b")}},
		{"all gone in theirs", "a b", "a b", "", list{chunkOf(theirs, "a b", "a b", "")}},
		{"all gone in both", "a b", "", "", list{chunkOf(both, "a b", "", "")}},
		{"gone in ours, changed in theirs", "a", "", "b", list{chunkOf(clash, "a", "", "b")}},
		{"changed in ours, gone in theirs", "k a k", "k b k", "k k", list{chunkOf(same, "k", "k", "k"), chunkOf(clash, "a", "b", ""), chunkOf(same, "k", "k", "k")}},
		{"changed in ours", "a b c", "a x c", "a b c", list{chunkOf(same, "a", "a", "a"), chunkOf(ours, "b", "x", "b"), chunkOf(same, "c", "c", "c")}},
		{"changed in theirs", "a b c", "a b c", "a x c", list{chunkOf(same, "a", "a", "a"), chunkOf(theirs, "b", "b", "x"), chunkOf(same, "c", "c", "c")}},
		{"changed in both alike", "a b c", "a x c", "a x c", list{chunkOf(same, "a", "a", "a"), chunkOf(both, "b", "x", "x"), chunkOf(same, "c", "c", "c")}},
		{"changed in both otherwise", "a b c", "a x c", "a y c", list{chunkOf(same, "a", "a", "a"), chunkOf(clash, "b", "x", "y"), chunkOf(same, "c", "c", "c")}},
		{"come in ours between kept lines", "a b", "a x b", "a b", list{chunkOf(same, "a", "a", "a"), chunkOf(ours, "", "x", ""), chunkOf(same, "b", "b", "b")}},
		{"come in theirs between kept lines", "a b", "a b", "a x y b", list{chunkOf(same, "a", "a", "a"), chunkOf(theirs, "", "", "x y"), chunkOf(same, "b", "b", "b")}},
		{"come in both alike between kept lines", "a b", "a x b", "a x b", list{chunkOf(same, "a", "a", "a"), chunkOf(both, "", "x", "x"), chunkOf(same, "b", "b", "b")}},
		{"come in both otherwise between kept lines", "a b", "a x b", "a y b", list{chunkOf(same, "a", "a", "a"), chunkOf(clash, "", "x", "y"), chunkOf(same, "b", "b", "b")}},
		{"gone in both, each its own", "a b c", "b c", "a b", list{chunkOf(ours, "a", "", "a"), chunkOf(same, "b", "b", "b"), chunkOf(theirs, "c", "c", "")}},
		{"kept lines follow in the sides, not in the base", "a x b", "a b", "a b", list{chunkOf(same, "a", "a", "a"), chunkOf(both, "x", "", ""), chunkOf(same, "b", "b", "b")}},
		{"a clash at the beginning", "a k", "b k", "c k", list{chunkOf(clash, "a", "b", "c"), chunkOf(same, "k", "k", "k")}},
		{"a clash at the end", "k a", "k b", "k c", list{chunkOf(same, "k", "k", "k"), chunkOf(clash, "a", "b", "c")}},
		{"two clashes, one kept line between", "a k b", "c k d", "e k f", list{chunkOf(clash, "a", "c", "e"), chunkOf(same, "k", "k", "k"), chunkOf(clash, "b", "d", "f")}},
		{"lines that one side alone keeps are not kept", "a b", "a x", "y b", list{chunkOf(clash, "a b", "a x", "y b")}},
		{"a line that moved", "a b c", "b c a", "a b c", list{chunkOf(ours, "a", "", "a"), chunkOf(same, "b c", "b c", "b c"), chunkOf(ours, "", "a", "")}},
		{"no line feed, all the same", "a b/", "a b/", "a b/", list{chunkOf(same, "a b/", "a b/", "a b/")}},
		{"no line feed in the base", "a b/", "a b", "a b", list{chunkOf(same, "a", "a", "a"), chunkOf(both, "b/", "b", "b")}},
		{"no line feed in ours", "a b", "a b/", "a b", list{chunkOf(same, "a", "a", "a"), chunkOf(ours, "b", "b/", "b")}},
		{"no line feed in theirs", "a b", "a b", "a b/", list{chunkOf(same, "a", "a", "a"), chunkOf(theirs, "b", "b", "b/")}},
		{"no line feed in both", "a b", "a b/", "a b/", list{chunkOf(same, "a", "a", "a"), chunkOf(both, "b", "b/", "b/")}},
		{"no line feed in the base and ours", "a b/", "a b/", "a b", list{chunkOf(same, "a", "a", "a"), chunkOf(theirs, "b/", "b/", "b")}},
		{"no line feed in ours, another line in theirs", "a b", "a b/", "a c", list{chunkOf(same, "a", "a", "a"), chunkOf(clash, "b", "b/", "c")}},
	}
	for _, c := range cases {
		b, o, th := linesOf(c.base), linesOf(c.ours), linesOf(c.theirs)
		r := impl.ChunksOf(b, o, th)
		if r.Code != impl.OK || !sameChunks(r.Chunks, c.chunks) {
			t.Errorf("%s: ChunksOf = %#v, want %#v", c.name, r, c.chunks)
		}
		checkMerge(t, b, o, th)
	}
}

// mergeLines: as many lines as there are kept ones, with a gap between all of them that one side in turn fills.
func mergeLines(kept int) (list []impl.Chunk, lists [3][]string) {
	add := func(c impl.Chunk) {
		list = append(list, c)
		lists = [3][]string{append(lists[0], c.Base...), append(lists[1], c.Ours...), append(lists[2], c.Theirs...)}
	}
	for i := range kept + 1 {
		fresh := []string{"x" + strconv.Itoa(i) + "\n"}
		switch i % 3 {
		case 0:
			add(impl.Chunk{Kind: impl.ChunkOurs, Ours: fresh})
		case 1:
			add(impl.Chunk{Kind: impl.ChunkTheirs, Theirs: fresh})
		default:
			add(impl.Chunk{Kind: impl.ChunkBoth, Base: fresh})
		}
		if i < kept {
			line := []string{strconv.Itoa(i) + "\n"}
			add(impl.Chunk{Kind: impl.ChunkSame, Base: line, Ours: line, Theirs: line})
		}
	}
	return list, lists
}

func TestPromise5AtItsBounds(t *testing.T) {
	full := numbered(1, maxLines)
	cut := changedAt(full, 3, 50)
	cut[maxLines-1] = "100"
	long := slices.Repeat([]string{strings.Repeat("a", 19) + "\n"}, maxLines)
	everySecond := slices.Clone(full)
	for at := 0; at < maxLines; at += 2 {
		everySecond[at] = "x\n"
	}
	lists := [][]string{nil, full, changedAt(full, 0, maxLines-1), everySecond, cut, long, {strings.Repeat("a", maxText)}, {strings.Repeat("b", maxText-1) + "\n"}}
	for _, base := range lists {
		for _, ours := range lists {
			for _, theirs := range lists {
				checkMerge(t, base, ours, theirs)
			}
		}
	}
	want, sides := mergeLines(74)
	if r := impl.ChunksOf(sides[0], sides[1], sides[2]); r.Code != impl.OK || !sameChunks(r.Chunks, want) {
		t.Errorf("%d chunks of a gap between all kept lines, want %d", len(r.Chunks), len(want))
	}
	checkMerge(t, sides[0], sides[1], sides[2])
}

func TestChunksOfWrongLines(t *testing.T) {
	good := linesOf("a b/")
	want := func(name string, base []string, ours []string, theirs []string, code int64) {
		t.Helper()
		if r := impl.ChunksOf(base, ours, theirs); r.Code != code || r.Chunks != nil {
			t.Errorf("%s: ChunksOf = %+v, want %d", name, r, code)
		}
	}
	for name, one := range faultyLists() {
		want(name+" in base", one.lines, good, nil, one.code)
		want(name+" in ours", good, one.lines, nil, one.code)
		want(name+" in theirs", good, nil, one.lines, one.code)
		for _, other := range faultyLists() {
			want(name+" in base and another in ours", one.lines, other.lines, good, one.code)
			want(name+" in base and another in theirs", one.lines, good, other.lines, one.code)
			want(name+" in ours and another in theirs", good, one.lines, other.lines, one.code)
		}
	}
	many := slices.Repeat([]string{"\n"}, maxLines+1)
	want("no form in base ahead of too many in ours and theirs", []string{""}, many, many, impl.ErrForm)
	want("no form in ours ahead of too many in theirs", good, []string{""}, many, impl.ErrForm)
	want("too many in ours ahead of no form in theirs", good, many, []string{""}, impl.ErrMany)
}

// strokes: a text with a stroke for each line feed.
func strokes(text string) string {
	return strings.ReplaceAll(text, "/", "\n")
}

func TestMergeTexts(t *testing.T) {
	cases := []struct {
		name               string
		base, ours, theirs string
		clashes            int64
		text               string
	}{
		{"nothing", "", "", "", 0, ""},
		{"the document's, without a clash", "1/2/3/", "0/2/3/", "1/2/4/", 0, "0/2/4/"},
		{"the document's, with a clash", "1/2/3/", "1/x/3/", "1/2/4/", 1, "1/<<<<<<</x/3/|||||||/2/3/=======/2/4/>>>>>>>/"},
		{"all the same", "a/b", "a/b", "a/b", 0, "a/b"},
		{"nothing in the base, ours", "", "a", "", 0, "a"},
		{"nothing in the base, theirs", "", "", "a/", 0, "a/"},
		{"nothing in the base, both alike", "", "a/b", "a/b", 0, "a/b"},
		{"nothing in the base, otherwise", "", "a", "b", 1, "<<<<<<</a/|||||||/=======/b/>>>>>>>/"},
		{"nothing in ours", "a/", "", "a/", 0, ""},
		{"nothing in theirs", "a/", "a/", "", 0, ""},
		{"nothing in both", "a/", "", "", 0, ""},
		{"nothing in ours, another in theirs", "a/", "", "b/", 1, "<<<<<<</|||||||/a/=======/b/>>>>>>>/"},
		{"another in ours, nothing in theirs", "a", "b", "", 1, "<<<<<<</b/|||||||/a/=======/>>>>>>>/"},
		{"both changed alike", "a/b/c/", "a/x/c/", "a/x/c/", 0, "a/x/c/"},
		{"each side its own line", "a/b/c/d/e/", "a/x/c/d/e/", "a/b/c/y/e/", 0, "a/x/c/y/e/"},
		{"come on each side", "a/b/c/", "x/a/b/c/", "a/b/c/y/", 0, "x/a/b/c/y/"},
		{"a clash at the beginning", "a/k/", "b/k/", "c/k/", 1, "<<<<<<</b/|||||||/a/=======/c/>>>>>>>/k/"},
		{"a clash at the beginning, no line feed at the end", "a/k", "b/k", "c/k", 1, "<<<<<<</b/|||||||/a/=======/c/>>>>>>>/k"},
		{"a clash at the end", "k/a/", "k/b/", "k/c/", 1, "k/<<<<<<</b/|||||||/a/=======/c/>>>>>>>/"},
		{"two clashes, one line between", "a/k/b/", "c/k/d/", "e/k/f/", 2, "<<<<<<</c/|||||||/a/=======/e/>>>>>>>/k/<<<<<<</d/|||||||/b/=======/f/>>>>>>>/"},
		{"a clash, and what each side changed alone", "a/k/b/k/c/", "x/k/b/k/d/", "a/k/y/k/e/", 1, "x/k/y/k/<<<<<<</d/|||||||/c/=======/e/>>>>>>>/"},
		{"no line feed in the base, taken from ours", "a/b", "a/b/", "a/b", 0, "a/b/"},
		{"no line feed in the base, taken from both", "a/b", "a/b/", "a/b/", 0, "a/b/"},
		{"no line feed in ours", "a/b/", "a/b", "a/b/", 0, "a/b"},
		{"no line feed in theirs", "a/b/", "a/b/", "a/b", 0, "a/b"},
		{"no line feed in both", "a/b/", "a/b", "a/b", 0, "a/b"},
		{"no line feed in theirs, ours changed elsewhere", "1/2/3/", "0/2/3/", "1/2/3", 0, "0/2/3"},
		{"no line feed in all three, ours changed elsewhere", "1/2/3", "0/2/3", "1/2/3", 0, "0/2/3"},
		{"a clash, no line feed in the base", "a", "b/", "c/", 1, "<<<<<<</b/|||||||/a/=======/c/>>>>>>>/"},
		{"a clash, no line feed in ours", "a/", "b", "c/", 1, "<<<<<<</b/|||||||/a/=======/c/>>>>>>>/"},
		{"a clash, no line feed in theirs", "a/", "b/", "c", 1, "<<<<<<</b/|||||||/a/=======/c/>>>>>>>/"},
		{"a clash, no line feed in all three", "a", "b", "c", 1, "<<<<<<</b/|||||||/a/=======/c/>>>>>>>/"},
		{"a clash of a line feed alone", "a/", "a", "b/", 1, "<<<<<<</a/|||||||/a/=======/b/>>>>>>>/"},
		{"a line feed gone in ours, a line come in theirs", "a/", "a", "a/b/", 1, "<<<<<<</a/|||||||/a/=======/a/b/>>>>>>>/"},
		{"a line come behind one without line feed, on both sides", "a", "a/b", "a/c", 1, "<<<<<<</a/b/|||||||/a/=======/a/c/>>>>>>>/"},
		{"empty lines", "//", "/x/", "///", 1, "/<<<<<<</x/|||||||//=======///>>>>>>>/"},
		{"marks of a clash as lines", "a/", "<<<<<<</", "a/", 0, "<<<<<<</"},
		{"bytes of no text", "\x00/\xff/", "\x00/\xff/b/", "\x00/\xff/", 0, "\x00/\xff/b/"},
	}
	for _, c := range cases {
		got := impl.MergeTexts(strokes(c.base), strokes(c.ours), strokes(c.theirs))
		want := impl.MergeResult{Clashes: c.clashes, Text: strokes(c.text)}
		if got != want {
			t.Errorf("%s: MergeTexts = %#v, want %#v", c.name, got, want)
		}
	}
}

func TestMergeTextsAtTheirBounds(t *testing.T) {
	joined := func(lines []string) string { return strings.Join(lines, "") }
	numbers := numbered(1, maxLines-2)
	base := joined(numbers)
	a := func(count int) string { return strings.Repeat("a", count) }
	b := func(count int) string { return strings.Repeat("b", count) }
	cases := []struct {
		name               string
		base, ours, theirs string
		code               int64
	}{
		{"MaxLines lines, a line come on each side", base, "x\n" + base, base + "y\n", impl.OK},
		{"one line more", base, "x\n" + base, base + "y\nz\n", impl.ErrMany},
		{"one line more, without a line feed", base, "x\n" + base, base + "y\nz", impl.ErrMany},
		{"MaxLines lines with a clash", "", joined(numbered(1, 48)), joined(numbered(101, 148)), impl.OK},
		{"one line more with a clash", "", joined(numbered(1, 48)), joined(numbered(101, 149)), impl.ErrMany},
		{"one line more with a clash, in the base", joined(numbered(201, 201)), joined(numbered(1, 48)), joined(numbered(101, 148)), impl.ErrMany},
		{"far too many lines with a clash", joined(numbered(201, 300)), joined(numbered(1, 100)), joined(numbered(101, 200)), impl.ErrMany},
		{"MaxText bytes", "1\nk\n2", a(999) + "\nk\n2", "1\nk\n" + b(998), impl.OK},
		{"one byte more", "1\nk\n2", a(999) + "\nk\n2", "1\nk\n" + b(999), impl.ErrMany},
		{"MaxText bytes with a clash", "", a(983), b(983), impl.OK},
		{"one byte more with a clash", "", a(984), b(983), impl.ErrMany},
		{"one byte more with a clash, in theirs", "", a(983), b(984), impl.ErrMany},
		{"MaxText bytes with a clash, line feeds of its own", "", a(983) + "\n", b(983) + "\n", impl.OK},
		{"far too many bytes", strings.Repeat("c", maxText), a(maxText), b(maxText), impl.ErrMany},
		{"MaxText bytes taken as they are", "", a(maxText), "", impl.OK},
		{"MaxLines lines taken as they are", "", "", joined(numbered(1, maxLines)), impl.OK},
	}
	for _, c := range cases {
		for _, r := range []impl.MergeResult{impl.MergeTexts(c.base, c.ours, c.theirs), impl.MergeTexts(c.base, c.theirs, c.ours)} {
			if r.Code != c.code || c.code != impl.OK && r != (impl.MergeResult{Code: c.code}) {
				t.Errorf("%s: MergeTexts = %#v, want %d", c.name, r, c.code)
			}
			if strings.Contains(c.name, "MaxText bytes") && c.code == impl.OK && len(r.Text) != maxText {
				t.Errorf("%s: %d bytes", c.name, len(r.Text))
			}
			if strings.Contains(c.name, "MaxLines lines") && strings.Count(r.Text, "\n") != maxLines {
				t.Errorf("%s: %d lines", c.name, strings.Count(r.Text, "\n"))
			}
		}
		checkMerge(t, impl.SplitLines(c.base).Lines, impl.SplitLines(c.ours).Lines, impl.SplitLines(c.theirs).Lines)
	}
}

func TestMergeTextsWrongTexts(t *testing.T) {
	for name, wrong := range map[string]string{
		"too many lines":                       strings.Repeat("\n", maxLines+1),
		"too many lines, the last one unended": strings.Repeat("\n", maxLines) + "a",
		"too many bytes":                       strings.Repeat("a", maxText+1),
		"far too many":                         strings.Repeat("a\n\x00", 100000),
	} {
		for _, good := range []string{"", "a\nb", wrong} {
			for i, r := range []impl.MergeResult{impl.MergeTexts(wrong, good, good), impl.MergeTexts(good, wrong, good), impl.MergeTexts(good, good, wrong)} {
				if r != (impl.MergeResult{Code: impl.ErrMany}) {
					t.Errorf("%s on side %d: MergeTexts = %#v", name, i, r)
				}
			}
		}
	}
}

// chunksFaultByWords asks what the document asks, one question at a time.
func chunksFaultByWords(chunks []impl.Chunk) int64 {
	if len(chunks) > maxChunks {
		return impl.ErrMany
	}
	var sides [3][]string
	for _, c := range chunks {
		if !slices.Contains([]int64{0, 1, 2, 3, 4}, c.Kind) {
			return impl.ErrRange
		}
		if kindByWords(c) != c.Kind || len(c.Base)+len(c.Ours)+len(c.Theirs) == 0 {
			return impl.ErrForm
		}
		sides = [3][]string{append(sides[0], c.Base...), append(sides[1], c.Ours...), append(sides[2], c.Theirs...)}
	}
	for _, lines := range sides {
		if code := impl.LinesFault(lines); code != impl.OK {
			return code
		}
	}
	return impl.OK
}

var wrongSides = []int64{math.MinInt64, math.MinInt64 + 1, -2, -1, 3, 4, 1 << 32, 1<<32 + 1, math.MaxInt64}

// wantChunksCode: every function that asks for the fault of chunks answers this code, and nothing beside it.
func wantChunksCode(t *testing.T, name string, chunks []impl.Chunk, code int64) {
	t.Helper()
	if got := impl.ChunksFault(chunks); got != code {
		t.Errorf("%s: ChunksFault = %d, want %d", name, got, code)
	}
	if code == impl.OK {
		wantChunksWoven(t, name, chunks)
		return
	}
	if r := impl.SwapChunks(chunks); r.Code != code || r.Chunks != nil {
		t.Errorf("%s: SwapChunks = %#v, want %d", name, r, code)
	}
	for _, side := range []int64{0, 1, 2, 3, -1, math.MinInt64, math.MaxInt64} {
		if r := impl.WeaveSide(chunks, side); r.Code != code || r.Lines != nil {
			t.Errorf("%s: WeaveSide %d = %#v, want %d", name, side, r, code)
		}
	}
	if r := impl.CountClashes(chunks); r != (impl.IntResult{Code: code}) {
		t.Errorf("%s: CountClashes = %+v, want %d", name, r, code)
	}
}

// wantChunksWoven: what the functions answer to chunks without a fault, whether ChunksOf makes such ones or not.
func wantChunksWoven(t *testing.T, name string, chunks []impl.Chunk) {
	t.Helper()
	var sides [3][]string
	clashes := int64(0)
	for _, c := range chunks {
		sides = [3][]string{append(sides[0], c.Base...), append(sides[1], c.Ours...), append(sides[2], c.Theirs...)}
		if c.Kind == impl.ChunkClash {
			clashes++
		}
	}
	for side, lines := range sides {
		if r := impl.WeaveSide(chunks, int64(side)); r.Code != impl.OK || !slices.Equal(r.Lines, lines) {
			t.Errorf("%s: WeaveSide %d = %#v, want %q", name, side, r, lines)
		}
	}
	if r := impl.SwapChunks(chunks); r.Code != impl.OK || !sameChunks(r.Chunks, swapByWords(chunks)) {
		t.Errorf("%s: SwapChunks = %#v", name, r)
	}
	if r := impl.CountClashes(chunks); r != (impl.IntResult{Value: clashes}) {
		t.Errorf("%s: CountClashes = %+v, want %d", name, r, clashes)
	}
}

func TestWeaveSideWrongSides(t *testing.T) {
	for _, chunks := range [][]impl.Chunk{nil, {chunkOf(impl.ChunkClash, "a", "b", "c/")}, impl.ChunksOf(numbered(1, 9), numbered(2, 10), numbered(1, 8)).Chunks} {
		for _, side := range wrongSides {
			if r := impl.WeaveSide(chunks, side); r.Code != impl.ErrRange || r.Lines != nil {
				t.Errorf("WeaveSide %d of %d chunks = %#v", side, len(chunks), r)
			}
		}
	}
}

// singles: chunks that each side fills with single lines in turn, as many as there may be and as each side has room for.
func singles() []impl.Chunk {
	var chunks []impl.Chunk
	for range maxLines {
		chunks = append(chunks, chunkOf(impl.ChunkOurs, "", "a", ""), chunkOf(impl.ChunkTheirs, "", "", "a"))
	}
	return append(chunks, chunkOf(impl.ChunkBoth, "a", "", ""))
}

func TestChunksFault(t *testing.T) {
	const same, ours, theirs, both, clash = impl.ChunkSame, impl.ChunkOurs, impl.ChunkTheirs, impl.ChunkBoth, impl.ChunkClash
	type list = []impl.Chunk
	many := strings.Repeat("a ", maxLines+1)
	full := strings.Repeat("a ", maxLines)
	good := chunkOf(same, "a", "a", "a")
	wrongKind := impl.Chunk{Kind: 5}
	wide := strings.Repeat("w", maxText)
	cases := []struct {
		name   string
		chunks list
		code   int64
	}{
		{"one of each kind", list{good, chunkOf(ours, "a", "b", "a"), chunkOf(theirs, "a", "a", "b"), chunkOf(both, "a", "b", "b"), chunkOf(clash, "a", "b", "c")}, impl.OK},
		{"without a base", list{chunkOf(ours, "", "b", ""), chunkOf(theirs, "", "", "b"), chunkOf(both, "", "b", "b"), chunkOf(clash, "", "b", "c")}, impl.OK},
		{"gone", list{chunkOf(ours, "a", "", "a"), chunkOf(theirs, "a", "a", ""), chunkOf(both, "a", "", ""), chunkOf(clash, "a", "", "c"), chunkOf(clash, "a", "b", "")}, impl.OK},
		{"chunks of one kind behind one another", list{good, good, chunkOf(clash, "a", "b", "c"), chunkOf(clash, "a", "b", "c")}, impl.OK},
		{"201 chunks", singles(), impl.OK},
		{"202 chunks", append(singles(), chunkOf(both, "a", "", "")), impl.ErrMany},
		{"202 chunks ahead of a kind", append(list{wrongKind}, singles()...), impl.ErrMany},
		{"201 chunks, the last of no kind", append(singles()[:maxChunks-1], wrongKind), impl.ErrRange},
		{"201 chunks, the last with nothing in it", append(singles()[:maxChunks-1], impl.Chunk{}), impl.ErrForm},
		{"far too many chunks", make(list, 100000), impl.ErrMany},
		{"nothing in it", list{{}}, impl.ErrForm},
		{"nothing in it, empty lists", list{{Base: []string{}, Ours: []string{}, Theirs: []string{}}}, impl.ErrForm},
		{"nothing in the second", list{good, {}}, impl.ErrForm},
		{"nothing in it, of another kind", list{{Kind: clash}}, impl.ErrForm},
		{"nothing in it, of no kind", list{wrongKind}, impl.ErrRange},
		{"Kind -1", list{chunkOf(-1, "a", "a", "a")}, impl.ErrRange},
		{"Kind 5", list{chunkOf(5, "a", "b", "c")}, impl.ErrRange},
		{"Kind at the low end", list{chunkOf(math.MinInt64, "a", "a", "a")}, impl.ErrRange},
		{"Kind at the high end", list{chunkOf(math.MaxInt64, "a", "a", "a")}, impl.ErrRange},
		{"a Kind that is 0 in its low bits", list{chunkOf(1<<32, "a", "a", "a")}, impl.ErrRange},
		{"Kind of the second", list{good, chunkOf(5, "a", "a", "a")}, impl.ErrRange},
		{"Kind of the second behind no form of the first", list{chunkOf(ours, "a", "a", "a"), wrongKind}, impl.ErrForm},
		{"no form of the second behind the Kind of the first", list{wrongKind, chunkOf(ours, "a", "a", "a")}, impl.ErrRange},
		{"Kind ahead of lines that have a fault", list{{Kind: same, Base: []string{""}, Ours: []string{""}, Theirs: []string{""}}, wrongKind}, impl.ErrRange},
		{"Kind ahead of too many lines", list{chunkOf(same, many, many, many), wrongKind}, impl.ErrRange},
		{"no form of the last ahead of too many lines", list{chunkOf(same, many, many, many), {}}, impl.ErrForm},
		{"MaxLines lines", list{chunkOf(same, full, full, full)}, impl.OK},
		{"MaxLines lines, and one of ours more", list{chunkOf(same, full, full, full), chunkOf(ours, "", "a", "")}, impl.ErrMany},
		{"MaxLines lines, and one of theirs more", list{chunkOf(same, full, full, full), chunkOf(theirs, "", "", "a")}, impl.ErrMany},
		{"MaxLines lines, and one of the base more", list{chunkOf(same, full, full, full), chunkOf(both, "a", "", "")}, impl.ErrMany},
		{"MaxText bytes", list{chunkOf(ours, "", wide+"/", "")}, impl.OK},
		{"one byte more", list{chunkOf(ours, "", "a", ""), chunkOf(ours, "", wide[2:]+"x/", "")}, impl.ErrMany},
		{"as many bytes as may be, in two chunks", list{chunkOf(ours, "", "a", ""), chunkOf(ours, "", wide[2:]+"/", "")}, impl.OK},
		{"a line without line feed, none behind it on its side", list{chunkOf(ours, "", "a/", ""), chunkOf(theirs, "", "", "a/"), chunkOf(both, "a/", "", "")}, impl.OK},
		{"a line without line feed, another behind it, in ours", list{chunkOf(ours, "", "a/", ""), good}, impl.ErrForm},
		{"a line without line feed, another behind it, in theirs", list{chunkOf(theirs, "", "", "a/"), good}, impl.ErrForm},
		{"a line without line feed, another behind it, in the base", list{chunkOf(both, "a/", "", ""), good}, impl.ErrForm},
		{"a line without line feed, another behind it chunks later", list{chunkOf(ours, "", "a/", ""), chunkOf(theirs, "", "", "a"), chunkOf(both, "a", "", ""), chunkOf(ours, "", "a", "")}, impl.ErrForm},
		{"a line without line feed within a chunk", list{{Kind: ours, Ours: []string{"a", "b\n"}}}, impl.ErrForm},
		{"an empty line in the base", list{{Kind: both, Base: []string{""}}}, impl.ErrForm},
		{"an empty line in ours", list{{Kind: ours, Ours: []string{""}}}, impl.ErrForm},
		{"an empty line in theirs", list{{Kind: theirs, Theirs: []string{""}}}, impl.ErrForm},
		{"a line feed within a line", list{{Kind: theirs, Theirs: []string{"a\nb\n"}}}, impl.ErrForm},
		{"no form in the base ahead of too many in ours", list{{Kind: clash, Base: []string{""}, Ours: linesOf(many)}}, impl.ErrForm},
		{"no form in the base ahead of too many in theirs", list{{Kind: clash, Base: []string{""}, Theirs: linesOf(many)}}, impl.ErrForm},
		{"too many in the base ahead of no form in ours", list{{Kind: clash, Base: linesOf(many), Ours: []string{""}}}, impl.ErrMany},
		{"no form in ours ahead of too many in theirs", list{{Kind: clash, Ours: []string{""}, Theirs: linesOf(many)}}, impl.ErrForm},
		{"too many in ours ahead of no form in theirs", list{{Kind: clash, Ours: linesOf(many), Theirs: []string{""}}}, impl.ErrMany},
		{"too many of a side ahead of an empty line on it", list{{Kind: ours, Ours: []string{""}}, chunkOf(ours, "", many, "")}, impl.ErrMany},
		{"no form in the base of the last ahead of too many in ours of the first", list{chunkOf(ours, "", many, ""), {Kind: both, Base: []string{""}}}, impl.ErrForm},
	}
	for _, c := range cases {
		wantChunksCode(t, c.name, c.chunks, c.code)
	}
}

// everySmallChunk: each kind, and kinds that are none, with each of these lists on each side.
func everySmallChunk(lists [][]string) []impl.Chunk {
	var chunks []impl.Chunk
	for kind := int64(-1); kind <= 5; kind++ {
		for _, base := range lists {
			for _, ours := range lists {
				for _, theirs := range lists {
					chunks = append(chunks, impl.Chunk{Kind: kind, Base: base, Ours: ours, Theirs: theirs})
				}
			}
		}
	}
	return chunks
}

func TestPromise5EveryOneAndTwoSmallChunks(t *testing.T) {
	for _, c := range everySmallChunk(append(listsOver([]string{"a\n", "b", ""}, 2), []string{"a\nb"}, []string{"\n\n"})) {
		chunks := []impl.Chunk{c}
		wantChunksCode(t, fmt.Sprintf("%#v", chunks), chunks, chunksFaultByWords(chunks))
		if t.Failed() {
			return
		}
	}
	chunks := everySmallChunk([][]string{nil, {"a\n"}, {"b"}})
	for _, one := range chunks {
		for _, other := range chunks {
			both := []impl.Chunk{one, other}
			wantChunksCode(t, fmt.Sprintf("%#v", both), both, chunksFaultByWords(both))
		}
		if t.Failed() {
			return
		}
	}
}

func TestClashText(t *testing.T) {
	const clash = impl.ChunkClash
	cases := []struct {
		name  string
		chunk impl.Chunk
		text  string
	}{
		{"one line each", chunkOf(clash, "a", "b", "c"), "<<<<<<</b/|||||||/a/=======/c/>>>>>>>/"},
		{"several lines", chunkOf(clash, "a b", "b c", "c d e"), "<<<<<<</b/c/|||||||/a/b/=======/c/d/e/>>>>>>>/"},
		{"no base", chunkOf(clash, "", "b", "c"), "<<<<<<</b/|||||||/=======/c/>>>>>>>/"},
		{"no ours", chunkOf(clash, "a", "", "c"), "<<<<<<</|||||||/a/=======/c/>>>>>>>/"},
		{"no theirs", chunkOf(clash, "a", "b", ""), "<<<<<<</b/|||||||/a/=======/>>>>>>>/"},
		{"no line feed in the base", chunkOf(clash, "a/", "b", "c"), "<<<<<<</b/|||||||/a/=======/c/>>>>>>>/"},
		{"no line feed in ours", chunkOf(clash, "a", "b/", "c"), "<<<<<<</b/|||||||/a/=======/c/>>>>>>>/"},
		{"no line feed in theirs", chunkOf(clash, "a", "b", "c/"), "<<<<<<</b/|||||||/a/=======/c/>>>>>>>/"},
		{"no line feed in all", chunkOf(clash, "a/", "b/", "c/"), "<<<<<<</b/|||||||/a/=======/c/>>>>>>>/"},
		{"lines without line feed that are not last", impl.Chunk{Kind: clash, Base: []string{"a", "b"}, Ours: []string{"c", "d\n", "e"}, Theirs: []string{"f\n", "g"}}, "<<<<<<</c/d/e/|||||||/a/b/=======/f/g/>>>>>>>/"},
		{"no line feed is all that is other", impl.Chunk{Kind: clash, Base: []string{"a"}, Ours: []string{"a\n"}}, "<<<<<<</a/|||||||/a/=======/>>>>>>>/"},
		{"other lines of one text", impl.Chunk{Kind: clash, Base: []string{"ab"}, Ours: []string{"a", "b"}, Theirs: []string{"b", "a"}}, "<<<<<<</a/b/|||||||/ab/=======/b/a/>>>>>>>/"},
	}
	for _, c := range cases {
		if r := impl.ClashText(c.chunk); r != (impl.TextResult{Text: strokes(c.text)}) {
			t.Errorf("%s: ClashText = %#v, want %q", c.name, r, strokes(c.text))
		}
	}
	// No bound is told for it.
	far := impl.Chunk{Kind: clash, Base: slices.Repeat([]string{strings.Repeat("a", 50)}, 3000), Ours: numbered(1, 5000)}
	if r := impl.ClashText(far); r.Code != impl.OK || r.Text != clashByWords(far) {
		t.Errorf("ClashText of many lines: code %d, %d bytes", r.Code, len(r.Text))
	}
}

func TestClashTextWrongChunks(t *testing.T) {
	lists := append(listsOver([]string{"a\n", "b", ""}, 2), []string{"a\nb"}, []string{"\n\n"}, []string{"\na", "b"}, []string{"\n"})
	chunks := everySmallChunk(lists)
	for _, kind := range []int64{math.MinInt64, math.MaxInt64, 1<<32 + 4, -4} {
		chunks = append(chunks, chunkOf(kind, "a", "b", "c"))
	}
	isWrong := func(line string) bool {
		feed := strings.IndexByte(line, '\n')
		return line == "" || feed >= 0 && feed != len(line)-1
	}
	for _, c := range chunks {
		want := impl.TextResult{Code: impl.ErrForm}
		if c.Kind == 4 && kindByWords(c) == 4 && !slices.ContainsFunc(slices.Concat(c.Base, c.Ours, c.Theirs), isWrong) {
			want = impl.TextResult{Text: clashByWords(c)}
		}
		if got := impl.ClashText(c); got != want {
			t.Fatalf("ClashText(%#v) = %#v, want %#v", c, got, want)
		}
	}
}

// anyChunks: chunks of every kind, with and without faults.
func anyChunks() [][]impl.Chunk {
	return [][]impl.Chunk{
		nil, {}, {{}}, make([]impl.Chunk, 1000), singles(), {{Kind: -1}}, {{Kind: impl.ChunkOurs, Ours: []string{""}}},
		{chunkOf(impl.ChunkSame, "a b", "a b", "a b"), chunkOf(impl.ChunkOurs, "c", "d", "c"), chunkOf(impl.ChunkTheirs, "", "", "e/")},
		{chunkOf(impl.ChunkBoth, "a", "b", "b"), chunkOf(impl.ChunkClash, "a/", "b/", "c/")},
		{chunkOf(impl.ChunkClash, "a", "b", "c"), chunkOf(impl.ChunkSame, "k", "k", "k"), chunkOf(impl.ChunkClash, "a", "", "c")},
		impl.ChunksOf(numbered(1, 90), numbered(3, 100), changedAt(numbered(1, 92), 4, 50)).Chunks,
	}
}

// tellMerges: what all functions of chapter 4 answer to these arguments, in words.
func tellMerges(base []string, ours []string, theirs []string, chunks []impl.Chunk, texts [3]string) string {
	answers := fmt.Sprintf("%#v %#v %d %#v %#v", impl.ChunksOf(base, ours, theirs), impl.SwapChunks(chunks), impl.ChunksFault(chunks), impl.MergeTexts(texts[0], texts[1], texts[2]), impl.CountClashes(chunks))
	for side := int64(-1); side <= 3; side++ {
		answers += fmt.Sprintf(" %#v", impl.WeaveSide(chunks, side))
	}
	for _, chunk := range chunks {
		answers += fmt.Sprintf(" %#v", impl.ClashText(chunk))
	}
	return answers
}

func TestPromise1MergesHangOnTheArgumentsAlone(t *testing.T) {
	lists, texts := anyLists(), anyTexts()
	tell := func(i int) string {
		base, ours, theirs := lists[i%len(lists)], lists[(i*5+2)%len(lists)], lists[(i*3+1)%len(lists)]
		three := [3]string{strings.Clone(texts[i%len(texts)]), strings.Clone(texts[(i*7+3)%len(texts)]), strings.Clone(texts[(i*2+1)%len(texts)])}
		return tellMerges(slices.Clone(base), slices.Clone(ours), slices.Clone(theirs), anyChunks()[i%len(anyChunks())], three)
	}
	answers := make([]string, 4*len(lists))
	for i := range answers {
		answers[i] = tell(i)
	}
	// Backwards each call stands behind other ones than before.
	for i := len(answers) - 1; i >= 0; i-- {
		if tell(i) != answers[i] {
			t.Errorf("round %d: another answer at the second call", i)
		}
	}
}

// widened: the list with room behind it that holds a line of somebody else.
func widened(lines []string) []string {
	return append(slices.Clone(lines), "behind")[:len(lines)]
}

func lineBehind(lines []string) string {
	return lines[:len(lines)+1][len(lines)]
}

func TestPromise1MergesChangeNoArgument(t *testing.T) {
	lists := anyLists()
	for i := range 3 * len(lists) {
		given := [][]string{widened(lists[i%len(lists)]), widened(lists[(i*5+2)%len(lists)]), widened(lists[(i*3+1)%len(lists)])}
		kept := [][]string{slices.Clone(given[0]), slices.Clone(given[1]), slices.Clone(given[2])}
		chunks := append(cloneChunks(anyChunks()[i%len(anyChunks())]), chunkOf(7, "behind", "", ""))
		for k, c := range chunks {
			chunks[k].Base, chunks[k].Ours, chunks[k].Theirs = widened(c.Base), widened(c.Ours), widened(c.Theirs)
		}
		keptChunks := cloneChunks(chunks)
		tellMerges(given[0], given[1], given[2], chunks[:len(chunks)-1], [3]string{})
		for k := range given {
			if !slices.Equal(given[k], kept[k]) || lineBehind(given[k]) != "behind" {
				t.Errorf("round %d: list %d was changed, or what lies behind it", i, k)
			}
		}
		if !sameChunks(chunks, keptChunks) {
			t.Errorf("round %d: a chunk was changed", i)
		}
		for k, c := range chunks {
			if lineBehind(c.Base) != "behind" || lineBehind(c.Ours) != "behind" || lineBehind(c.Theirs) != "behind" {
				t.Errorf("round %d: what lies behind the lines of chunk %d was changed", i, k)
			}
		}
	}
}

// wantNewChunks: no line of the chunks has memory of the given texts or of another list's line, and no list reaches into another.
func wantNewChunks(t *testing.T, name string, chunks []impl.Chunk, given []string) {
	t.Helper()
	if len(chunks) < 3 {
		t.Fatalf("%s: %d chunks", name, len(chunks))
	}
	var lists []*[]string
	for i := range chunks {
		lists = append(lists, &chunks[i].Base, &chunks[i].Ours, &chunks[i].Theirs)
	}
	var kept [][]string
	for _, list := range lists {
		kept = append(kept, slices.Clone(*list))
		for _, line := range *list {
			for _, text := range given {
				if sharesBytes(line, text) {
					t.Errorf("%s: the line %q has memory that is not new", name, line)
				}
			}
		}
		given = append(given, *list...)
	}
	for i, list := range lists {
		before := *list
		*list = append(before, "more")
		for k := range before {
			before[k] = "changed"
		}
		for k := i + 1; k < len(lists); k++ {
			if !slices.Equal(*lists[k], kept[k]) {
				t.Errorf("%s: the lists %d and %d share memory", name, i, k)
			}
		}
	}
}

func TestPromise1ChunksAreNewMemory(t *testing.T) {
	base, ours, theirs := linesOf("a b c d e f g"), linesOf("a x b c d e h"), linesOf("a b c y d z g/")
	given := slices.Concat(base, ours, theirs)
	told := impl.ChunksOf(base, ours, theirs)
	again := impl.ChunksOf(base, ours, theirs)
	kept := cloneChunks(told.Chunks)
	wantNewChunks(t, "ChunksOf", told.Chunks, slices.Clone(given))
	if !slices.Equal(slices.Concat(base, ours, theirs), given) || !sameChunks(again.Chunks, kept) {
		t.Error("ChunksOf shares memory with its arguments or its answers")
	}
	// One list on all sides, so that the lines of a chunk are the same texts.
	line := linesOf("a b c")
	three := impl.ChunksOf(line, append(slices.Clone(line[:1]), line...), append(slices.Clone(line), line[2]))
	wantNewChunks(t, "ChunksOf of one list", three.Chunks, slices.Clone(line))

	shared := impl.Chunk{Kind: impl.ChunkSame, Base: line, Ours: line, Theirs: line}
	for name, chunks := range map[string][]impl.Chunk{"SwapChunks": again.Chunks, "SwapChunks of one list": {shared, shared, shared}} {
		before := cloneChunks(chunks)
		var lines []string
		for _, c := range chunks {
			lines = slices.Concat(lines, c.Base, c.Ours, c.Theirs)
		}
		wantNewChunks(t, name, impl.SwapChunks(chunks).Chunks, lines)
		if !sameChunks(chunks, before) {
			t.Errorf("%s: the answer shares lists with the argument", name)
		}
	}
}

func TestPromise1WovenAndMergedTextsAreNewMemory(t *testing.T) {
	for _, chunks := range [][]impl.Chunk{{chunkOf(impl.ChunkClash, "a b/", "c d/", "e f/")}, impl.ChunksOf(linesOf("a b c"), linesOf("a x c"), linesOf("a b c d/")).Chunks} {
		kept := cloneChunks(chunks)
		var given []string
		for _, c := range chunks {
			given = slices.Concat(given, c.Base, c.Ours, c.Theirs)
		}
		for side := range int64(3) {
			woven := impl.WeaveSide(chunks, side)
			for i, line := range woven.Lines {
				for _, text := range given {
					if sharesBytes(line, text) {
						t.Errorf("WeaveSide %d: the line %q has the memory of an argument", side, line)
					}
				}
				woven.Lines[i] = "changed"
			}
		}
		if !sameChunks(chunks, kept) {
			t.Error("WeaveSide hands lists of its argument out")
		}
		for _, c := range chunks {
			for _, text := range given {
				if sharesBytes(impl.ClashText(c).Text, text) {
					t.Error("ClashText has the memory of an argument")
				}
			}
		}
	}
	texts := []string{"a line\n", "a line", "another\nand more", "", "\n"}
	for _, base := range texts {
		for _, ours := range texts {
			for _, theirs := range texts {
				text := impl.MergeTexts(base, ours, theirs).Text
				if sharesBytes(text, base) || sharesBytes(text, ours) || sharesBytes(text, theirs) {
					t.Errorf("MergeTexts(%q, %q, %q) has the memory of an argument", base, ours, theirs)
				}
			}
		}
	}
}
