package tests

import (
	"fmt"
	"maps"
	"math"
	"math/rand"
	"regexp"
	"slices"
	"strconv"
	"strings"
	"testing"

	"loop.example/g00172/impl"
)

const maxEntries = 200
const maxIndexText = 12000

var wrongStages = []int64{math.MinInt64, math.MinInt64 + 1, -3, -2, -1, 4, 5, 1 << 32, 1<<32 + 1, 1<<32 + 3, math.MaxInt64}

func TestNumberOfEntries(t *testing.T) {
	if impl.MaxEntries != maxEntries {
		t.Errorf("MaxEntries = %d", impl.MaxEntries)
	}
}

func indexFaultByWords(index []impl.Entry) int64 {
	if len(index) > maxEntries {
		return impl.ErrMany
	}
	for i, entry := range index {
		if pathFaultByWords(entry.Path) != impl.OK {
			return impl.ErrForm
		}
		if !slices.Contains([]int64{0, 1, 2, 3}, entry.Stage) || !slices.Contains([]int64{1, 2}, entry.Mode) {
			return impl.ErrRange
		}
		if !isIdByWords("b", entry.Id) {
			return impl.ErrForm
		}
		if i == 0 {
			continue
		}
		ahead := index[i-1]
		if ahead.Path == entry.Path && (ahead.Stage == 0 || entry.Stage <= ahead.Stage) {
			return impl.ErrForm
		}
		if ahead.Path != entry.Path && !isAbove(entry.Path, ahead.Path) {
			return impl.ErrForm
		}
	}
	return impl.OK
}

// linesByWords: the lines of an index, the sum's not among them.
func linesByWords(index []impl.Entry) string {
	text := ""
	for _, entry := range index {
		text += fmt.Sprintf("%d %s %s %s\n", entry.Stage, map[int64]string{1: "file", 2: "run"}[entry.Mode], entry.Id, entry.Path)
	}
	return text
}

// summed: the text with its sum behind it.
func summed(lines string) string {
	return lines + fmt.Sprintf("sum %d\n", digestByHand(lines))
}

func formatIndexByWords(index []impl.Entry) impl.TextResult {
	if code := indexFaultByWords(index); code != impl.OK {
		return impl.TextResult{Code: code}
	}
	return impl.TextResult{Text: summed(linesByWords(index))}
}

var entryForm = regexp.MustCompile(`\A([0-3]) (file|run) ([^ \n]+) ([^ \n]+)\n`)
var sumForm = regexp.MustCompile(`\Asum [0-9]{1,5}\n\z`)

func parseIndexByWords(text string) impl.EntriesResult {
	if len(text) > maxIndexText {
		return impl.EntriesResult{Code: impl.ErrMany}
	}
	var index []impl.Entry
	rest := text
	for {
		found := entryForm.FindStringSubmatch(rest)
		if found == nil {
			break
		}
		stage, _ := strconv.ParseInt(found[1], 10, 64)
		index = append(index, impl.Entry{Path: found[4], Stage: stage, Mode: map[string]int64{"file": 1, "run": 2}[found[2]], Id: found[3]})
		rest = rest[len(found[0]):]
	}
	if !sumForm.MatchString(rest) {
		return impl.EntriesResult{Code: impl.ErrText, At: int64(len(index))}
	}
	if code := indexFaultByWords(index); code != impl.OK {
		return impl.EntriesResult{Code: code}
	}
	if want := formatIndexByWords(index).Text; !strings.HasSuffix(want, "\n"+rest) && want != rest {
		return impl.EntriesResult{Code: impl.ErrClash}
	}
	return impl.EntriesResult{Entries: index}
}

func clashesByWords(index []impl.Entry) impl.LinesResult {
	if code := indexFaultByWords(index); code != impl.OK {
		return impl.LinesResult{Code: code}
	}
	paths := map[string]bool{}
	for _, entry := range index {
		if entry.Stage > 0 {
			paths[entry.Path] = true
		}
	}
	return impl.LinesResult{Lines: slices.Sorted(maps.Keys(paths))}
}

func stageFilesByWords(index []impl.Entry, stage int64) impl.FilesResult {
	if code := indexFaultByWords(index); code != impl.OK {
		return impl.FilesResult{Code: code}
	}
	if stage < 0 || stage > 3 {
		return impl.FilesResult{Code: impl.ErrRange}
	}
	var files []impl.File
	for _, entry := range index {
		if entry.Stage == stage {
			files = append(files, impl.File{Path: entry.Path, Mode: entry.Mode, Id: entry.Id})
		}
	}
	return impl.FilesResult{Files: files}
}

func indexFilesByWords(index []impl.Entry) impl.FilesResult {
	clashes := clashesByWords(index)
	if clashes.Code != impl.OK {
		return impl.FilesResult{Code: clashes.Code}
	}
	if len(clashes.Lines) > 0 {
		return impl.FilesResult{Code: impl.ErrBusy}
	}
	files := stageFilesByWords(index, 0).Files
	if code := filesFaultByWords(files); code != impl.OK {
		return impl.FilesResult{Code: code}
	}
	return impl.FilesResult{Files: files}
}

func filesIndexByWords(files []impl.File) impl.EntriesResult {
	if code := filesFaultByWords(files); code != impl.OK {
		return impl.EntriesResult{Code: code}
	}
	var index []impl.Entry
	for _, file := range files {
		index = append(index, impl.Entry{Path: file.Path, Mode: file.Mode, Id: file.Id})
	}
	return impl.EntriesResult{Entries: index}
}

// sortIndex: by Path, then Stage, as text: a stage has one digit, and no path has a byte of 0.
func sortIndex(index []impl.Entry) []impl.Entry {
	key := func(entry impl.Entry) string { return entry.Path + "\x00" + strconv.FormatInt(entry.Stage, 10) }
	slices.SortStableFunc(index, func(a impl.Entry, b impl.Entry) int { return strings.Compare(key(a), key(b)) })
	return index
}

func resolveByWords(index []impl.Entry, path string, mode int64, id string) impl.EntriesResult {
	clashes := clashesByWords(index)
	if clashes.Code != impl.OK {
		return impl.EntriesResult{Code: clashes.Code}
	}
	if !slices.Contains(clashes.Lines, path) {
		return impl.EntriesResult{Code: impl.ErrNone}
	}
	var made []impl.Entry
	for _, entry := range index {
		if entry.Path != path {
			made = append(made, entry)
		}
	}
	switch mode {
	case 0:
		if id != "" {
			return impl.EntriesResult{Code: impl.ErrForm}
		}
	case 1, 2:
		if !isIdByWords("b", id) {
			return impl.EntriesResult{Code: impl.ErrForm}
		}
		made = append(made, impl.Entry{Path: path, Mode: mode, Id: id})
	default:
		return impl.EntriesResult{Code: impl.ErrRange}
	}
	return impl.EntriesResult{Entries: sortIndex(made)}
}

func swapStagesByWords(index []impl.Entry) impl.EntriesResult {
	if code := indexFaultByWords(index); code != impl.OK {
		return impl.EntriesResult{Code: code}
	}
	made := slices.Clone(index)
	for i := range made {
		made[i].Stage = []int64{0, 1, 3, 2}[made[i].Stage]
	}
	return impl.EntriesResult{Entries: sortIndex(made)}
}

func sameEntriesResult(a impl.EntriesResult, b impl.EntriesResult) bool {
	return a.Code == b.Code && a.At == b.At && slices.Equal(a.Entries, b.Entries)
}

// staged: an index of paths, each with an equals sign and the digits of its stages behind it, with modes and ids that differ from one to the next.
func staged(told string) []impl.Entry {
	var index []impl.Entry
	for _, word := range strings.Fields(told) {
		path, stages, _ := strings.Cut(word, "=")
		for _, digit := range stages {
			i := len(index)
			index = append(index, impl.Entry{Path: path, Stage: int64(digit - '0'), Mode: int64(i%2 + 1), Id: fmt.Sprintf("b%04x", (i*1097+1)%65521)})
		}
	}
	return index
}

// fullIndex: so many entries, each path with the stages that are told.
func fullIndex(count int, stages string) []impl.Entry {
	told := ""
	for i := range count {
		told += fmt.Sprintf("d%d/f%04d=%s ", i%3, i, stages)
	}
	words := strings.Fields(told)
	slices.Sort(words)
	return staged(strings.Join(words, " "))[:count]
}

// randomIndex: an index without a fault, of at most so many entries.
func randomIndex(random *rand.Rand, most int, names []string) []impl.Entry {
	held := map[string]string{}
	for range random.Intn(most + 1) {
		path := names[random.Intn(len(names))]
		for range random.Intn(maxParts) {
			path += "/" + names[random.Intn(len(names))]
		}
		held[path] = []string{"0", "0", "0", "1", "2", "3", "12", "13", "23", "123"}[random.Intn(10)]
	}
	var index []impl.Entry
	for _, path := range slices.Sorted(maps.Keys(held)) {
		for _, digit := range held[path] {
			index = append(index, impl.Entry{Path: path, Stage: int64(digit - '0'), Mode: int64(random.Intn(2) + 1), Id: fmt.Sprintf("b%04x", random.Intn(65521))})
		}
	}
	return index[:min(len(index), most)]
}

func wantParsed(t *testing.T, text string) impl.EntriesResult {
	t.Helper()
	got, want := impl.ParseIndex(text), parseIndexByWords(text)
	if !sameEntriesResult(got, want) {
		t.Errorf("ParseIndex(%.200q) = %.200s, want %.200s", text, fmt.Sprintf("%#v", got), fmt.Sprintf("%#v", want))
	}
	return got
}

func wantResolved(t *testing.T, name string, index []impl.Entry, path string, mode int64, id string) impl.EntriesResult {
	t.Helper()
	got, want := impl.ResolvePath(index, path, mode, id), resolveByWords(index, path, mode, id)
	if !sameEntriesResult(got, want) {
		t.Errorf("%s: ResolvePath %.40q, %d, %.40q = %+v, want %+v", name, path, mode, id, got, want)
	}
	if got.Code == impl.OK {
		wantSettled(t, name, index, path, mode, id, got.Entries)
	}
	return got
}

// wantSettled asks promise 11 of a path that was resolved.
func wantSettled(t *testing.T, name string, index []impl.Entry, path string, mode int64, id string, made []impl.Entry) {
	t.Helper()
	if code := impl.IndexFault(made); code != impl.OK {
		t.Errorf("%s, %q: what is resolved has the fault %d", name, path, code)
	}
	isAt := func(entry impl.Entry) bool { return entry.Path == path }
	others := slices.DeleteFunc(slices.Clone(made), isAt)
	if !slices.Equal(others, slices.DeleteFunc(slices.Clone(index), isAt)) {
		t.Errorf("%s, %q: the others do not stay: %+v", name, path, made)
	}
	var at []impl.Entry
	for _, entry := range made {
		if isAt(entry) {
			at = append(at, entry)
		}
	}
	if mode == 0 && len(at) != 0 || mode != 0 && !slices.Equal(at, []impl.Entry{{Path: path, Mode: mode, Id: id}}) {
		t.Errorf("%s, %q: it has %+v", name, path, at)
	}
	before, after := impl.ClashesIn(index).Lines, impl.ClashesIn(made).Lines
	if !slices.Contains(before, path) || !slices.Equal(after, slices.DeleteFunc(slices.Clone(before), func(one string) bool { return one == path })) {
		t.Errorf("%s, %q: clashes are %q, were %q", name, path, after, before)
	}
}

// wantIndex asks every function of the chapter at this index, and promise 11 where it has no fault. It answers the fault.
func wantIndex(t *testing.T, name string, index []impl.Entry) int64 {
	t.Helper()
	code := impl.IndexFault(index)
	if want := indexFaultByWords(index); code != want {
		t.Errorf("%s: IndexFault = %d, want %d", name, code, want)
	}
	text := impl.FormatIndex(index)
	if want := formatIndexByWords(index); text != want {
		t.Errorf("%s: FormatIndex = %+v, want %+v", name, text, want)
	}
	if r, want := impl.ClashesIn(index), clashesByWords(index); !sameLinesResult(r, want) {
		t.Errorf("%s: ClashesIn = %+v, want %+v", name, r, want)
	}
	if r, want := impl.IndexFiles(index), indexFilesByWords(index); !sameFilesResult(r, want) {
		t.Errorf("%s: IndexFiles = %+v, want %+v", name, r, want)
	}
	for _, stage := range []int64{-1, 0, 1, 2, 3, 4} {
		if r, want := impl.StageFiles(index, stage), stageFilesByWords(index, stage); !sameFilesResult(r, want) {
			t.Errorf("%s: StageFiles %d = %+v, want %+v", name, stage, r, want)
		}
	}
	swapped := impl.SwapStages(index)
	if want := swapStagesByWords(index); !sameEntriesResult(swapped, want) {
		t.Errorf("%s: SwapStages = %+v, want %+v", name, swapped, want)
	}
	if code != impl.OK {
		return code
	}
	if back := impl.SwapStages(swapped.Entries); !sameEntriesResult(back, impl.EntriesResult{Entries: index}) {
		t.Errorf("%s: swapped twice it is %+v, want %+v", name, back, index)
	}
	want := impl.EntriesResult{Entries: index}
	if len(text.Text) > maxIndexText {
		want = impl.EntriesResult{Code: impl.ErrMany}
	}
	if r := impl.ParseIndex(text.Text); !sameEntriesResult(r, want) {
		t.Errorf("%s: what is read back is %+v, want %+v", name, r, want)
	}
	return impl.OK
}

func TestPromise11KnownIndexes(t *testing.T) {
	for _, c := range []struct {
		index []impl.Entry
		lines string
	}{
		{nil, ""},
		{[]impl.Entry{}, ""},
		{[]impl.Entry{{Path: "a", Mode: 1, Id: "b03f6"}}, "0 file b03f6 a\n"},
		{[]impl.Entry{{Path: "a", Mode: 2, Id: "b03f6"}}, "0 run b03f6 a\n"},
		{[]impl.Entry{{Path: "a/b/c/d", Stage: 3, Mode: 2, Id: "bffff"}}, "3 run bffff a/b/c/d\n"},
		{[]impl.Entry{{Path: "a", Mode: 1, Id: "b03f6"}, {Path: "b", Stage: 2, Mode: 1, Id: "b0001"}, {Path: "b", Stage: 3, Mode: 2, Id: "b0002"}}, "0 file b03f6 a\n2 file b0001 b\n3 run b0002 b\n"},
		{[]impl.Entry{{Path: "a", Stage: 1, Mode: 1, Id: "b0001"}, {Path: "a", Stage: 2, Mode: 1, Id: "b0001"}, {Path: "a", Stage: 3, Mode: 1, Id: "b0001"}, {Path: "a/b", Mode: 2, Id: "b0001"}}, "1 file b0001 a\n2 file b0001 a\n3 file b0001 a\n0 run b0001 a/b\n"},
	} {
		want := summed(c.lines)
		if r := impl.FormatIndex(c.index); r != (impl.TextResult{Text: want}) {
			t.Errorf("FormatIndex = %+v, want %q", r, want)
		}
		if r := impl.ParseIndex(want); !sameEntriesResult(r, impl.EntriesResult{Entries: c.index}) {
			t.Errorf("ParseIndex(%q) = %+v, want %+v", want, r, c.index)
		}
		wantIndex(t, c.lines, c.index)
	}
	// The sum is that of the lines ahead alone: 7 of nothing.
	if r := impl.FormatIndex(nil); r.Text != "sum 7\n" {
		t.Errorf("FormatIndex of nothing = %+v", r)
	}
	if r := impl.ParseIndex("sum 7\n"); r.Code != impl.OK || r.At != 0 || len(r.Entries) != 0 {
		t.Errorf("ParseIndex of nothing = %+v", r)
	}
}

// entryPool: entries of few paths, all stages, and faults of every kind.
func entryPool() []impl.Entry {
	pool := []impl.Entry{{Path: "a", Mode: 3, Id: "b0001"}, {Path: "a", Stage: 4, Mode: 1, Id: "b0001"}, {Path: "b", Stage: -1, Mode: 1, Id: "b0001"}, {Path: "b", Mode: 1, Id: "t0001"}, {Path: "/", Mode: 1, Id: "b0001"}, {}}
	for _, path := range []string{"a", "a-", "a/b", "b"} {
		for stage := range int64(4) {
			pool = append(pool, impl.Entry{Path: path, Stage: stage, Mode: stage%2 + 1, Id: "b000" + strconv.FormatInt(stage, 10)})
		}
	}
	return pool
}

func TestPromise11EverySmallIndex(t *testing.T) {
	pool := entryPool()
	var words []string
	for i := range pool {
		words = append(words, strconv.Itoa(i))
	}
	codes := map[int64]int{}
	for _, list := range listsOver(words, 3) {
		var index []impl.Entry
		for _, word := range list {
			at, _ := strconv.Atoi(word)
			index = append(index, pool[at])
		}
		name := fmt.Sprintf("%+v", index)
		code := wantIndex(t, name, index)
		codes[code]++
		if code != impl.OK || len(index) > 2 && codes[code]%5 != 0 {
			continue
		}
		for _, path := range []string{"", "a", "a-", "a/b", "b", "c"} {
			for _, mode := range []int64{-1, 0, 1, 2, 3} {
				for _, id := range []string{"", "b0009", "t0009"} {
					wantResolved(t, name, index, path, mode, id)
				}
			}
		}
	}
	for _, code := range []int64{impl.OK, impl.ErrForm, impl.ErrRange} {
		if codes[code] < 100 {
			t.Errorf("the lists do not reach all: %v", codes)
		}
	}
}

func TestPromise11RandomIndexes(t *testing.T) {
	random := rand.New(rand.NewSource(18))
	stages, modes, resolved := map[string]int{}, map[int64]int{}, map[int64]int{}
	for round := range 400 {
		index := randomIndex(random, []int{3, 12, 60, maxEntries}[round%4], partingNames[:3+round%12])
		name := fmt.Sprintf("round %d", round)
		if code := wantIndex(t, name, index); code != impl.OK {
			t.Errorf("%s: IndexFault = %d", name, code)
		}
		of := map[string]string{}
		for _, entry := range index {
			of[entry.Path] += strconv.FormatInt(entry.Stage, 10)
			modes[entry.Mode]++
		}
		paths := slices.Sorted(maps.Keys(of))
		for _, path := range paths {
			stages[of[path]]++
		}
		for _, path := range append(paths[:min(len(paths), 6)], "none", "a/") {
			for mode, id := range map[int64]string{0: "", 1: "b1234", 2: "b4321"} {
				resolved[wantResolved(t, name, index, path, mode, id).Code]++
			}
		}
	}
	if len(stages) != 8 || len(modes) != 2 || resolved[impl.OK] < 500 || resolved[impl.ErrNone] < 500 {
		t.Errorf("the indexes do not reach all: %v, %v, %v", stages, modes, resolved)
	}
}

// indexOfLength: an index without a fault, whose text has so many bytes, not far from as many as may be.
func indexOfLength(t *testing.T, length int) []impl.Entry {
	t.Helper()
	const many, few, room = 180, 15, 8
	long := strings.Repeat("x", 12)
	for extra := range few * room {
		var index []impl.Entry
		for i := range many {
			path := fmt.Sprintf("p%03d", i) + long[:room] + strings.Repeat("/"+long, 3)
			index = append(index, impl.Entry{Path: path, Stage: int64(i % 4), Mode: 1, Id: "b0001"})
		}
		// Those that are short make up for the rest.
		for i := range few {
			more := min(max(extra-i*room, 0), room)
			index = append(index, impl.Entry{Path: fmt.Sprintf("p%03d", many+i) + long[:more], Stage: int64(i % 4), Mode: 1, Id: "b0001"})
		}
		if len(formatIndexByWords(index).Text) == length {
			return index
		}
	}
	t.Fatalf("no index of %d", length)
	return nil
}

func TestPromise11IndexesAtTheirBounds(t *testing.T) {
	for _, stages := range []string{"0", "123", "23", "1"} {
		for _, count := range []int{maxEntries - 1, maxEntries} {
			if code := wantIndex(t, "as many as may be", fullIndex(count, stages)); code != impl.OK {
				t.Errorf("%d entries of %s: %d", count, stages, code)
			}
		}
		more := fullIndex(maxEntries+1, stages)
		if code := wantIndex(t, "one more", more); code != impl.ErrMany {
			t.Errorf("one more of %s: %d", stages, code)
		}
		// Read from a text there are too many as well.
		if r := wantParsed(t, summed(linesByWords(more))); !sameEntriesResult(r, impl.EntriesResult{Code: impl.ErrMany}) {
			t.Errorf("one more of %s is read: %+v", stages, r)
		}
		if r := wantParsed(t, summed(linesByWords(more[:maxEntries]))); r.Code != impl.OK || len(r.Entries) != maxEntries {
			t.Errorf("as many as may be of %s: %d", stages, r.Code)
		}
	}
	for length, code := range map[int]int64{maxIndexText - 1: impl.OK, maxIndexText: impl.OK, maxIndexText + 1: impl.ErrMany, maxIndexText + 2: impl.ErrMany} {
		index := indexOfLength(t, length)
		wantIndex(t, "long", index)
		text := impl.FormatIndex(index)
		if text.Code != impl.OK || len(text.Text) != length {
			t.Fatalf("%d bytes: FormatIndex = %d, %d", length, text.Code, len(text.Text))
		}
		if r := wantParsed(t, text.Text); r.Code != code || r.At != 0 || (code == impl.OK) != slices.Equal(r.Entries, index) {
			t.Errorf("%d bytes: ParseIndex = %d", length, r.Code)
		}
	}
	// The longest of all is written, and is too long to be read.
	var longest []impl.Entry
	for i := range maxEntries {
		longest = append(longest, impl.Entry{Path: fmt.Sprintf("%012d/%012[1]d/%012[1]d/%012[1]d", i), Mode: 1, Id: "b0001"})
	}
	if code := wantIndex(t, "the longest", longest); code != impl.OK {
		t.Errorf("the longest: %d", code)
	}
}

// faultyIndexes: indexes with the code of each.
func faultyIndexes() map[string]struct {
	index []impl.Entry
	code  int64
} {
	type faulty = struct {
		index []impl.Entry
		code  int64
	}
	form, many, wrong := int64(impl.ErrForm), int64(impl.ErrMany), int64(impl.ErrRange)
	with := func(path string, stage int64, mode int64, id string) impl.Entry {
		return impl.Entry{Path: path, Stage: stage, Mode: mode, Id: id}
	}
	a := with("a", 0, 1, "b0001")
	lists := map[string]faulty{
		"a zero entry":                         {make([]impl.Entry, 1), form},
		"too many":                             {fullIndex(maxEntries+1, "0"), many},
		"too many, all wrong":                  {make([]impl.Entry, maxEntries+1), many},
		"far too many":                         {make([]impl.Entry, 100000), many},
		"as many as may be, the last wrong":    {append(fullIndex(maxEntries-1, "0"), with("z", 4, 1, "b0001")), wrong},
		"as many as may be, the first wrong":   {append([]impl.Entry{with("a", 0, 0, "b0001")}, fullIndex(maxEntries-1, "0")...), wrong},
		"as many as may be, the last not new":  {append(fullIndex(maxEntries-1, "0"), with("a", 0, 1, "b0001")), form},
		"a wrong path and all else":            {[]impl.Entry{with("a/", 9, 9, "x")}, form},
		"a path of five names":                 {[]impl.Entry{with("a/b/c/d/e", 0, 1, "b0001")}, form},
		"a path with a blank":                  {[]impl.Entry{with("a b", 0, 1, "b0001")}, form},
		"no path":                              {[]impl.Entry{with("", 0, 1, "b0001")}, form},
		"a wrong stage and id":                 {[]impl.Entry{with("a", 4, 1, "x")}, wrong},
		"a wrong mode and id":                  {[]impl.Entry{with("a", 0, 3, "x")}, wrong},
		"a wrong stage, and not behind":        {[]impl.Entry{with("b", 0, 1, "b0001"), with("a", -1, 1, "b0001")}, wrong},
		"a wrong mode, and not behind":         {[]impl.Entry{with("b", 0, 1, "b0001"), with("a", 0, 0, "b0001")}, wrong},
		"a wrong mode, behind what is settled": {[]impl.Entry{a, with("a", 1, 0, "b0001")}, wrong},
		"one twice":                            {[]impl.Entry{a, a}, form},
		"one path and stage twice":             {[]impl.Entry{with("a", 2, 1, "b0001"), with("a", 2, 2, "b0002")}, form},
		"paths that do not rise":               {staged("b=0 a=0"), form},
		"paths that rise by names alone":       {staged("a/b=0 a-b=0"), form},
		"paths that do not rise, stages do":    {staged("b=1 a=2"), form},
		"stages that do not rise":              {staged("a=21"), form},
		"stages that do not rise, the last":    {staged("a=132"), form},
		"stages that do not rise, in between":  {staged("a=0 b=213 c=0"), form},
		"stage 0 behind another":               {staged("a=10"), form},
		"a path that comes again":              {staged("a=12 b=0 a=3"), form},
		"not behind, ahead of a wrong mode":    {[]impl.Entry{with("b", 0, 1, "b0001"), a, with("c", 0, 9, "b0001")}, form},
		"a wrong mode ahead of one not behind": {[]impl.Entry{with("c", 0, 9, "b0001"), with("b", 0, 1, "b0001"), a}, wrong},
		"a wrong id ahead of a wrong stage":    {[]impl.Entry{with("a", 0, 1, "b"), with("b", 4, 1, "b0001")}, form},
		"a wrong stage ahead of a wrong path":  {[]impl.Entry{with("a", 4, 1, "b0001"), with("", 0, 1, "b0001")}, wrong},
		"a wrong path ahead of a wrong stage":  {[]impl.Entry{with(".", 0, 1, "b0001"), with("b", 4, 1, "b0001")}, form},
	}
	for _, stage := range []int64{0, 1, 2, 3} {
		lists[fmt.Sprintf("stage %d behind what is settled", stage)] = faulty{[]impl.Entry{a, with("a", stage, 1, "b0002")}, form}
	}
	for _, stage := range wrongStages {
		lists["stage "+strconv.FormatInt(stage, 10)] = faulty{[]impl.Entry{a, with("b", stage, 1, "b0001")}, wrong}
	}
	for _, mode := range append(slices.Clone(wrongModes), 3) {
		lists["mode "+strconv.FormatInt(mode, 10)] = faulty{[]impl.Entry{a, with("b", 2, mode, "b0001")}, wrong}
	}
	for _, id := range slices.Concat(wrongIds, []string{"t0007", "c0007"}) {
		lists["id "+strconv.Quote(id)] = faulty{[]impl.Entry{a, with("b", 1, 1, id)}, form}
	}
	return lists
}

func TestIndexesWithAFault(t *testing.T) {
	for name, c := range faultyIndexes() {
		name = fmt.Sprintf("%.60s", name)
		if code := wantIndex(t, name, c.index); code != c.code {
			t.Errorf("%s: IndexFault = %d, want %d", name, code, c.code)
		}
		if r := impl.FormatIndex(c.index); r != (impl.TextResult{Code: c.code}) {
			t.Errorf("%s: FormatIndex = %+v", name, r)
		}
		if r := impl.ClashesIn(c.index); r.Code != c.code || r.Lines != nil {
			t.Errorf("%s: ClashesIn = %+v", name, r)
		}
		// The fault is told ahead of a clash, of wrong files, and of all that is wrong beside it.
		for _, index := range [][]impl.Entry{c.index, append(slices.Clone(c.index), staged("z=123")...)} {
			if len(index) > maxEntries && len(c.index) <= maxEntries {
				continue
			}
			if r := impl.IndexFiles(index); r.Code != c.code || r.Files != nil {
				t.Errorf("%s: IndexFiles = %+v", name, r)
			}
		}
		for _, stage := range slices.Concat(wrongStages, []int64{0, 1, 2, 3}) {
			if r := impl.StageFiles(c.index, stage); r.Code != c.code || r.Files != nil {
				t.Errorf("%s: StageFiles %d = %+v", name, stage, r)
			}
		}
		for _, path := range []string{"", "a", "b", "none"} {
			for _, mode := range []int64{-1, 0, 1, 2, 3} {
				for _, id := range []string{"", "b0001", "t0001"} {
					if r := impl.ResolvePath(c.index, path, mode, id); r.Code != c.code || r.At != 0 || r.Entries != nil {
						t.Errorf("%s: ResolvePath = %+v", name, r)
					}
				}
			}
		}
		if r := impl.SwapStages(c.index); r.Code != c.code || r.At != 0 || r.Entries != nil {
			t.Errorf("%s: SwapStages = %+v", name, r)
		}
	}
}

func TestPathsOfAnIndex(t *testing.T) {
	for _, path := range []string{"a", "a/b/c/d", strings.Repeat("z", 12), "-", "...", "0/1"} {
		if code := wantIndex(t, path, []impl.Entry{{Path: path, Mode: 1, Id: "b0001"}}); code != impl.OK {
			t.Errorf("%q: %d", path, code)
		}
	}
	for _, text := range spoilt("ab/c", spoilers) {
		wantIndex(t, strconv.Quote(text), []impl.Entry{{Path: text, Stage: 2, Mode: 1, Id: "b0001"}})
	}
	// Every two paths of this kind in both orders, with every two stages.
	for _, one := range partingNames {
		for _, other := range append(slices.Clone(partingNames), "a/b", "a/-") {
			for stages := range int64(16) {
				wantIndex(t, one+" and "+other, []impl.Entry{{Path: one, Stage: stages / 4, Mode: 1, Id: "b0001"}, {Path: other, Stage: stages % 4, Mode: 2, Id: "b0002"}})
			}
		}
	}
}

func TestParseIndexTellsItsCodes(t *testing.T) {
	a, b, c := "0 file b03f6 a\n", "1 run b0001 b\n", "3 file b0002 b\n"
	form, many, unread, clash := int64(impl.ErrForm), int64(impl.ErrMany), int64(impl.ErrText), int64(impl.ErrClash)
	long := strings.Repeat("x", maxIndexText)
	for _, k := range []struct {
		name string
		text string
		code int64
		at   int64
	}{
		{"all right", summed(a + b + c), impl.OK, 0},
		{"no entry", summed(""), impl.OK, 0},
		{"nothing", "", unread, 0},
		{"an empty line alone", "\n", unread, 0},
		{"no sum", a, unread, 1},
		{"no sum behind three", a + b + c, unread, 3},
		{"an empty line ahead", "\n" + summed(a), unread, 0},
		{"an empty line between", a + "\n" + summed(b), unread, 1},
		{"an empty line ahead of the sum", a + b + "\nsum 7\n", unread, 2},
		{"an empty line behind the sum", summed(a) + "\n", unread, 1},
		{"two sums", summed(a) + "sum 7\n", unread, 1},
		{"the same sum twice", "sum 7\nsum 7\n", unread, 0},
		{"an entry behind the sum", summed(a) + b, unread, 1},
		{"an entry behind the sum, and a sum", summed(a) + summed(b), unread, 1},
		{"a byte behind the sum", summed(a) + "x", unread, 1},
		{"a blank behind the sum", summed(a) + " ", unread, 1},
		{"an entry without a line feed", strings.TrimSuffix(a, "\n"), unread, 0},
		{"the last entry without a line feed", a + strings.TrimSuffix(b, "\n"), unread, 1},
		{"the sum without a line feed", a + "sum 7", unread, 1},
		{"the sum alone, without a line feed", "sum 7", unread, 0},
		{"a sum of no digit", a + "sum \n", unread, 1},
		{"a sum of no digit and no blank", a + "sum\n", unread, 1},
		{"a sum of six digits", a + "sum 123456\n", unread, 1},
		{"a sum of six digits, with zeros ahead", "sum 000007\n", unread, 0},
		{"a sum of many digits", a + "sum " + strings.Repeat("1", 5000) + "\n", unread, 1},
		{"a sum with a sign", "sum +7\n", unread, 0},
		{"a sum below 0", "sum -7\n", unread, 0},
		{"a sum with two blanks", "sum  7\n", unread, 0},
		{"a sum with a tab", "sum\t7\n", unread, 0},
		{"a sum with a blank behind", "sum 7 \n", unread, 0},
		{"a sum with a blank ahead", " sum 7\n", unread, 0},
		{"a sum with other digits", "sum \u0667\n", unread, 0},
		{"a sum in sixteens", "sum 0x7\n", unread, 0},
		{"a sum of a letter", "sum a\n", unread, 0},
		{"a sum of a letter between digits", "sum 1a7\n", unread, 0},
		{"a sum with a return", "sum 7\r\n", unread, 0},
		{"another word", "Sum 7\n", unread, 0},
		{"a longer word", "sums 7\n", unread, 0},
		{"a sum with a zero ahead", "sum 07\n", clash, 0},
		{"a sum with zeros ahead", "sum 00007\n", clash, 0},
		{"another sum", "sum 8\n", clash, 0},
		{"a sum of 0", "sum 0\n", clash, 0},
		{"the greatest sum", "sum 99999\n", clash, 0},
		{"the sum of nothing behind something", a + "sum 7\n", clash, 0},
		{"the sum of what is ahead of the last", a + b + strings.TrimPrefix(summed(a), a), clash, 0},
		{"a sum that is more by the modulus", "sum 65528\n", clash, 0},
		{"a stage of 4", a + "4 file b0001 b\nsum 7\n", unread, 1},
		{"a stage of 9", "9 file b0001 b\nsum 7\n", unread, 0},
		{"a stage of two digits", "01 file b0001 b\nsum 7\n", unread, 0},
		{"a stage with a plus", "+1 file b0001 b\nsum 7\n", unread, 0},
		{"a stage with a minus", "-1 file b0001 b\nsum 7\n", unread, 0},
		{"a stage that is a letter", "a file b0001 b\nsum 7\n", unread, 0},
		{"a stage with a letter behind", "1a file b0001 b\nsum 7\n", unread, 0},
		{"a stage ahead of 0", "/ file b0001 b\nsum 7\n", unread, 0},
		{"no stage", " file b0001 b\nsum 7\n", unread, 0},
		{"no stage and no blank", "file b0001 b\nsum 7\n", unread, 0},
		{"a word that is a tree", "0 tree t0001 b\nsum 7\n", unread, 0},
		{"another word for a mode", a + "0 File b0001 b\nsum 7\n", unread, 1},
		{"a longer word for a mode", "0 files b0001 b\nsum 7\n", unread, 0},
		{"a number for a mode", "0 1 b0001 b\nsum 7\n", unread, 0},
		{"no mode", "0  b0001 b\nsum 7\n", unread, 0},
		{"no id", "0 file  b\nsum 7\n", unread, 0},
		{"no path", "0 file b0001 \nsum 7\n", unread, 0},
		{"no path and no blank", "0 file b0001\nsum 7\n", unread, 0},
		{"two blanks ahead of the path", a + b + "0 file b0001  c\nsum 7\n", unread, 2},
		{"two blanks ahead of the mode", "0  file b0001 c\nsum 7\n", unread, 0},
		{"a blank at the beginning", " 0 file b0001 c\nsum 7\n", unread, 0},
		{"a blank at the end", "0 file b0001 c \nsum 7\n", unread, 0},
		{"a path with a blank", "0 file b0001 c d\nsum 7\n", unread, 0},
		{"a blank alone", a + " \nsum 7\n", unread, 1},
		{"three blanks alone", a + "   \nsum 7\n", unread, 1},
		{"a tab in place of a blank", "0 file\tb0001 c\nsum 7\n", unread, 0},
		{"a wrong line between right ones", a + "x\n" + b + c + "sum 7\n", unread, 1},
		{"a wrong line behind a fault", "0 file x y\n0 file x y\nx\n", unread, 2},
		{"a return ahead of the line feed", summed("0 file b0001 a\r\n"), form, 0},
		{"a word that is no id", summed("0 file x a\n"), form, 0},
		{"the id of a tree", summed("0 file t0001 a\n"), form, 0},
		{"a word that is no path", summed("0 file b0001 a//b\n"), form, 0},
		{"a path of bytes that no path has", summed("0 file b0001 \x00\xff\t\n"), form, 0},
		{"a tab within the path", summed("0 file b0001 a\tb\n"), form, 0},
		{"entries that do not rise", summed(c + a), form, 0},
		{"one twice", summed(a + a), form, 0},
		{"a stage behind what is settled", summed(a + "1 file b0001 a\n"), form, 0},
		{"a fault ahead of another sum", a + a + "sum 7\n", form, 0},
		{"too many ahead of another sum", strings.Repeat(a, maxEntries+1) + "sum 7\n", many, 0},
		{"too many", summed(strings.Repeat(a, maxEntries+1)), many, 0},
		{"as many as may be, all the same", summed(strings.Repeat(a, maxEntries)), form, 0},
		{"very many short ones", strings.Repeat("0 run x y\n", 1199) + "sum 7\n", many, 0},
		{"very many short ones and no sum", strings.Repeat("0 run x y\n", 1200), unread, 1200},
		{"as long as may be, and unread", long, unread, 0},
		{"too long, and unread", long + "x", many, 0},
		{"too long, with entries ahead", a + b + long, many, 0},
		{"too long by its sum", a + "sum " + long + "\n", many, 0},
		{"too long, with a fault", strings.Repeat(a+a, 500) + "sum 7\n", many, 0},
		{"far too long", strings.Repeat(a, 100000), many, 0},
		{"long words of a fault", "3 run " + strings.Repeat("b", 5000) + " " + strings.Repeat("p", 5000) + "\nsum 7\n", form, 0},
	} {
		r := wantParsed(t, k.text)
		if r.Code != k.code || r.At != k.at || k.code != impl.OK && r.Entries != nil {
			t.Errorf("%s: ParseIndex(%.100q) = %d at %d, want %d at %d", k.name, k.text, r.Code, r.At, k.code, k.at)
		}
	}
}

func TestParseIndexOfSpoiltTexts(t *testing.T) {
	codes := map[int64]int{}
	for _, told := range []string{"", "a=0", "a=12 b=0", "a=0 b/c=123 d=3"} {
		for _, text := range spoilt(summed(linesByWords(staged(told))), spoilers+"12345678sumfiler") {
			codes[wantParsed(t, text).Code]++
			// With a sum that is right the lines alone are spoilt.
			if lines, _, ok := strings.Cut(text, "sum "); ok {
				codes[wantParsed(t, summed(lines)).Code]++
			}
		}
	}
	for _, code := range []int64{impl.OK, impl.ErrForm, impl.ErrText, impl.ErrClash} {
		if codes[code] < 50 {
			t.Errorf("the texts do not reach all: %v", codes)
		}
	}
}

func TestParseIndexOfEveryFewPieces(t *testing.T) {
	codes := map[int64]int{}
	for _, parts := range listsOver([]string{"0", "4", " ", "file", "b0001", "a", "\n", "sum", "7"}, 5) {
		text := strings.Join(parts, "")
		codes[wantParsed(t, text).Code]++
		codes[wantParsed(t, "0 run b0001 a\n3 file "+text+"\nsum 7\n").Code]++
		codes[wantParsed(t, "0 run b0001 0\n"+text).Code]++
	}
	for _, code := range []int64{impl.OK, impl.ErrForm, impl.ErrText, impl.ErrClash} {
		if codes[code] == 0 {
			t.Errorf("the texts do not reach all: %v", codes)
		}
	}
}

func TestParseIndexOfAnyText(t *testing.T) {
	for _, text := range anyTexts() {
		wantParsed(t, text)
		wantParsed(t, summed(text))
		wantParsed(t, "0 file b0001 a\n"+text)
		wantParsed(t, "0 file b0001 "+text)
	}
}

func TestParseIndexHoldsEverySumAgainstTheLines(t *testing.T) {
	lines := linesByWords(staged("a=0 b=23"))
	right := digestByHand(lines)
	for sum := range int64(100000) {
		want := impl.EntriesResult{Code: impl.ErrClash}
		if sum == right {
			want = impl.EntriesResult{Entries: staged("a=0 b=23")}
		}
		if r := impl.ParseIndex(lines + "sum " + strconv.FormatInt(sum, 10) + "\n"); !sameEntriesResult(r, want) {
			t.Errorf("sum %d: %+v", sum, r)
		}
	}
}

func TestClashesIn(t *testing.T) {
	for told, want := range map[string]string{
		"": "", "a=0": "", "a=1": "a", "a=2": "a", "a=3": "a", "a=12": "a", "a=23": "a", "a=123": "a", "a=0 b=123 c=0": "b",
		"a=1 b=2 c=3": "a b c", "a=123 b=0 c=123": "a c", "a=23 a-=13 a/b=12 aa=0 b=1": "a a- a/b b", "a-=13 a/b=12 aa=1": "a- a/b aa", "a=123 a-=0 a/b=1": "a a/b",
	} {
		index := staged(told)
		if impl.IndexFault(index) != impl.OK {
			t.Errorf("%s has a fault", told)
		}
		if r := impl.ClashesIn(index); r.Code != impl.OK || strings.Join(r.Lines, " ") != want {
			t.Errorf("%s: ClashesIn = %q, want %q", told, r.Lines, want)
		}
		busy := int64(impl.OK)
		if want != "" {
			busy = impl.ErrBusy
		}
		if r := impl.IndexFiles(index); r.Code != busy || busy != impl.OK && r.Files != nil {
			t.Errorf("%s: IndexFiles = %+v", told, r)
		}
		wantIndex(t, told, index)
	}
}

func TestIndexFilesTellsItsCodes(t *testing.T) {
	full := fullIndex(maxFiles, "0")
	over := fullIndex(maxFiles+1, "0")
	for _, c := range []struct {
		name  string
		index []impl.Entry
		code  int64
	}{
		{"none", nil, impl.OK},
		{"some", staged("a=0 b/c=0"), impl.OK},
		{"as many as may be", full, impl.OK},
		{"too many", over, impl.ErrMany},
		{"far too many", fullIndex(maxEntries, "0"), impl.ErrMany},
		{"within", staged("a=0 a/b=0"), impl.ErrTaken},
		{"within, one between", staged("a=0 a-=0 a/b=0"), impl.ErrTaken},
		{"too many, and within", append(staged("a=0 a/b=0"), over...), impl.ErrMany},
		{"a clash", staged("a=2"), impl.ErrBusy},
		{"a clash, and too many", append(over, staged("z=1")...), impl.ErrBusy},
		{"a clash, and within", staged("a=0 a/b=0 c=13"), impl.ErrBusy},
		{"a clash within", staged("a=0 a/b=1"), impl.ErrBusy},
		{"one within a clash", staged("a=3 a/b=0"), impl.ErrBusy},
		{"nothing but clashes", staged("a=123 b=123"), impl.ErrBusy},
	} {
		if r := impl.IndexFiles(c.index); r.Code != c.code || r.Code != impl.OK && r.Files != nil || r.Code == impl.OK && len(r.Files) != len(c.index) {
			t.Errorf("%s: IndexFiles = %+v, want %d", c.name, r, c.code)
		}
		wantIndex(t, c.name, c.index)
	}
	if r := impl.IndexFiles([]impl.Entry{{Path: "a", Mode: 2, Id: "b0001"}, {Path: "b", Mode: 1, Id: "b0002"}}); !slices.Equal(r.Files, []impl.File{{Path: "a", Mode: 2, Id: "b0001"}, {Path: "b", Mode: 1, Id: "b0002"}}) {
		t.Errorf("IndexFiles = %+v", r)
	}
}

func TestFilesIndex(t *testing.T) {
	for name, c := range faultyFiles() {
		if r := impl.FilesIndex(c.files); r.Code != c.code || r.At != 0 || r.Entries != nil {
			t.Errorf("%.60s: FilesIndex = %+v, want %d", name, r, c.code)
		}
	}
	random := rand.New(rand.NewSource(19))
	lists := [][]impl.File{nil, {}, filesAt("a"), filesAt("a-", "a/b", "b"), fullFiles(maxFiles, 1), fullFiles(maxFiles, 4)}
	for round := range 200 {
		lists = append(lists, randomFiles(random, maxFiles, partingNames[:2+round%12]))
	}
	for i, files := range lists {
		got, want := impl.FilesIndex(files), filesIndexByWords(files)
		if got.Code != impl.OK || !sameEntriesResult(got, want) {
			t.Errorf("list %d: FilesIndex = %+v, want %+v", i, got, want)
		}
		if r := impl.IndexFiles(got.Entries); !sameFilesResult(r, impl.FilesResult{Files: files}) {
			t.Errorf("list %d: the files are %+v, want %+v", i, r, files)
		}
		if code := wantIndex(t, fmt.Sprintf("list %d", i), got.Entries); code != impl.OK {
			t.Errorf("list %d: IndexFault = %d", i, code)
		}
	}
	if r := impl.FilesIndex([]impl.File{{Path: "a", Mode: 2, Id: "b0001"}, {Path: "b", Mode: 1, Id: "b0002"}}); !slices.Equal(r.Entries, []impl.Entry{{Path: "a", Mode: 2, Id: "b0001"}, {Path: "b", Mode: 1, Id: "b0002"}}) {
		t.Errorf("FilesIndex = %+v", r)
	}
}

func TestStageFiles(t *testing.T) {
	index := staged("a=0 b=123 c=23 d=0 e=13 f=1")
	for stage, want := range []string{"a d", "b e f", "b c", "b c e"} {
		r := impl.StageFiles(index, int64(stage))
		var paths []string
		for _, file := range r.Files {
			paths = append(paths, file.Path)
			at := slices.Index(index, impl.Entry{Path: file.Path, Stage: int64(stage), Mode: file.Mode, Id: file.Id})
			if at < 0 {
				t.Errorf("stage %d: %+v is not in it", stage, file)
			}
		}
		if r.Code != impl.OK || strings.Join(paths, " ") != want {
			t.Errorf("stage %d: %+v, want %s", stage, r, want)
		}
	}
	for _, stage := range wrongStages {
		for _, told := range []string{"", "a=0", "a=123"} {
			if r := impl.StageFiles(staged(told), stage); r.Code != impl.ErrRange || r.Files != nil {
				t.Errorf("stage %d of %q: %+v", stage, told, r)
			}
		}
	}
	// Files with a fault are told all the same: more than may be, and one within another.
	for stage := range int64(4) {
		digit := strconv.FormatInt(stage, 10)
		many := fullIndex(maxEntries, digit)
		if r := impl.StageFiles(many, stage); r.Code != impl.OK || len(r.Files) != maxEntries {
			t.Errorf("stage %d of many: %d, %d", stage, r.Code, len(r.Files))
		}
		if r := impl.StageFiles(staged("a="+digit+" a/b="+digit), stage); r.Code != impl.OK || len(r.Files) != 2 {
			t.Errorf("stage %d of one within another: %+v", stage, r)
		}
		if r := impl.StageFiles(many, (stage+1)%4); r.Code != impl.OK || len(r.Files) != 0 {
			t.Errorf("the stage behind %d: %+v", stage, r)
		}
		if r := impl.StageFiles(nil, stage); r.Code != impl.OK || len(r.Files) != 0 {
			t.Errorf("stage %d of nothing: %+v", stage, r)
		}
	}
}

func TestPromise11APathThatIsResolved(t *testing.T) {
	for _, c := range []struct {
		told, path, want string
	}{
		{"b=1", "b", "b=0"}, {"b=2", "b", "b=0"}, {"b=3", "b", "b=0"}, {"b=12", "b", "b=0"}, {"b=123", "b", "b=0"},
		{"a=0 b=123 c=0", "b", "a=0 b=0 c=0"}, {"a=123 b=123 c=123", "a", "a=0 b=123 c=123"}, {"a=123 b=123 c=123", "b", "a=123 b=0 c=123"}, {"a=123 b=123 c=123", "c", "a=123 b=123 c=0"},
		{"a=12 a-=3 a/b=23 aa=1", "a", "a=0 a-=3 a/b=23 aa=1"}, {"a=12 a-=3 a/b=23 aa=1", "a-", "a=12 a-=0 a/b=23 aa=1"}, {"a=12 a-=3 a/b=23 aa=1", "a/b", "a=12 a-=3 a/b=0 aa=1"}, {"a=0 a/b=23", "a/b", "a=0 a/b=0"},
	} {
		index := staged(c.told)
		for mode := int64(1); mode <= 2; mode++ {
			r := wantResolved(t, c.told, index, c.path, mode, "b9999")
			told := ""
			for _, entry := range r.Entries {
				if !strings.Contains(" "+told, " "+entry.Path+"=") {
					told += " " + entry.Path + "="
				}
				told += strconv.FormatInt(entry.Stage, 10)
			}
			if r.Code != impl.OK || r.At != 0 || told != " "+c.want {
				t.Errorf("%s, %s: %d,%s, want %s", c.told, c.path, r.Code, told, c.want)
			}
		}
		r := wantResolved(t, c.told, index, c.path, 0, "")
		without := slices.DeleteFunc(slices.Clone(index), func(entry impl.Entry) bool { return entry.Path == c.path })
		if r.Code != impl.OK || r.At != 0 || !slices.Equal(r.Entries, without) {
			t.Errorf("%s without %s: %+v", c.told, c.path, r)
		}
	}
	// One behind the other, until none clashes.
	index := fullIndex(maxEntries, "123")
	for left := impl.ClashesIn(index).Lines; len(left) > 0; left = left[1:] {
		r := wantResolved(t, "one behind the other", index, left[0], 1, "b0001")
		if r.Code != impl.OK {
			t.Fatalf("%s: %d", left[0], r.Code)
		}
		index = r.Entries
	}
	if r := impl.ClashesIn(index); r.Code != impl.OK || len(r.Lines) != 0 || len(index) != 67 {
		t.Errorf("at the end: %+v, %d", r, len(index))
	}
}

func TestResolvePathTellsItsCodes(t *testing.T) {
	index := staged("a=0 b=123 c=2 d/e=13 f=0")
	none, wrong, form := int64(impl.ErrNone), int64(impl.ErrRange), int64(impl.ErrForm)
	want := func(path string, mode int64, id string, code int64) {
		t.Helper()
		r := wantResolved(t, "codes", index, path, mode, id)
		if r.Code != code || r.At != 0 || code != impl.OK && r.Entries != nil {
			t.Errorf("ResolvePath %.40q, %d, %.40q = %+v, want %d", path, mode, id, r, code)
		}
	}
	wrongs := append(slices.DeleteFunc(slices.Clone(wrongModes), func(mode int64) bool { return mode == 0 }), 3)
	ids := slices.Concat(wrongIds, []string{"t0007", "c0007"})
	// A path that is not there, or is settled, is told ahead of all else that is wrong.
	for _, path := range []string{"", "a", "f", "d", "d/", "d/e/f", "e", "b ", " b", "B", "g", "bb", "\x00", "/", strings.Repeat("b", 100000)} {
		want(path, 1, "b0001", none)
		want(path, 0, "", none)
		want(path, 0, "b0001", none)
		want(path, 3, "b0001", none)
		want(path, 1, "x", none)
	}
	for _, path := range []string{"b", "c", "d/e"} {
		for _, mode := range wrongs {
			want(path, mode, "b0001", wrong)
			want(path, mode, "", wrong)
			want(path, mode, "x", wrong)
			want(path, mode, "t0001", wrong)
		}
		for _, id := range ids {
			want(path, 1, id, form)
			want(path, 2, id, form)
			if id != "" {
				want(path, 0, id, form)
			}
		}
		want(path, 0, "b0001", form)
		want(path, 0, "", impl.OK)
		want(path, 1, "b0001", impl.OK)
		want(path, 2, "bffff", impl.OK)
	}
}

func TestSwapStages(t *testing.T) {
	with := func(path string, stage int64, id string) impl.Entry {
		return impl.Entry{Path: path, Stage: stage, Mode: 1, Id: id}
	}
	for _, c := range []struct {
		index, want []impl.Entry
	}{
		{nil, nil},
		{[]impl.Entry{with("a", 0, "b0001")}, []impl.Entry{with("a", 0, "b0001")}},
		{[]impl.Entry{with("a", 1, "b0001")}, []impl.Entry{with("a", 1, "b0001")}},
		{[]impl.Entry{with("a", 2, "b0001")}, []impl.Entry{with("a", 3, "b0001")}},
		{[]impl.Entry{with("a", 3, "b0001")}, []impl.Entry{with("a", 2, "b0001")}},
		{[]impl.Entry{with("a", 2, "b0001"), with("a", 3, "b0002")}, []impl.Entry{with("a", 2, "b0002"), with("a", 3, "b0001")}},
		{[]impl.Entry{with("a", 1, "b0001"), with("a", 2, "b0002")}, []impl.Entry{with("a", 1, "b0001"), with("a", 3, "b0002")}},
		{[]impl.Entry{with("a", 1, "b0001"), with("a", 3, "b0002")}, []impl.Entry{with("a", 1, "b0001"), with("a", 2, "b0002")}},
		{[]impl.Entry{with("a", 1, "b0001"), with("a", 2, "b0002"), with("a", 3, "b0003")}, []impl.Entry{with("a", 1, "b0001"), with("a", 2, "b0003"), with("a", 3, "b0002")}},
		{[]impl.Entry{with("a", 3, "b0001"), with("b", 0, "b0002"), with("c", 2, "b0003"), with("c", 3, "b0004"), with("d", 2, "b0005")}, []impl.Entry{with("a", 2, "b0001"), with("b", 0, "b0002"), with("c", 2, "b0004"), with("c", 3, "b0003"), with("d", 3, "b0005")}},
	} {
		if r := impl.SwapStages(c.index); !sameEntriesResult(r, impl.EntriesResult{Entries: c.want}) {
			t.Errorf("SwapStages of %+v = %+v", c.index, r)
		}
		wantIndex(t, fmt.Sprintf("%+v", c.index), c.index)
	}
	// The modes go with their entries.
	index := []impl.Entry{{Path: "a", Stage: 2, Mode: 2, Id: "b0001"}, {Path: "a", Stage: 3, Mode: 1, Id: "b0001"}}
	if r := impl.SwapStages(index); r.Entries[0].Mode != 1 || r.Entries[1].Mode != 2 {
		t.Errorf("SwapStages = %+v", r)
	}
}

// anyIndexes: indexes of every kind, with and without faults.
func anyIndexes() [][]impl.Entry {
	lists := [][]impl.Entry{nil, {}, staged("a=0"), staged("a=123 b=0 c=23"), staged("a=0 a/b=0"), staged("b=12 d=13 e=1"), fullIndex(maxEntries, "123"), fullIndex(maxEntries, "0"), fullIndex(maxFiles, "0"), fullIndex(30, "23")}
	for _, name := range []string{"a zero entry", "too many", "one twice", "stages that do not rise", "mode 3", "far too many"} {
		lists = append(lists, faultyIndexes()[name].index)
	}
	return lists
}

func anyIndexTexts() []string {
	texts := append(anyTexts(), "sum 7\n", "sum 8\n", "0 file b0001 a\nx")
	for _, index := range anyIndexes()[:10] {
		texts = append(texts, summed(linesByWords(index)))
	}
	return texts
}

// tellIndex: what all functions of chapter 10 answer to these arguments, in words.
func tellIndex(index []impl.Entry, text string, files []impl.File, number int64, path string, id string) string {
	return fmt.Sprintf("%d %#v %#v %#v %#v %#v %#v %#v %#v", impl.IndexFault(index), impl.FormatIndex(index), impl.ParseIndex(text), impl.ClashesIn(index), impl.IndexFiles(index), impl.FilesIndex(files), impl.StageFiles(index, number), impl.ResolvePath(index, path, number, id), impl.SwapStages(index))
}

func TestPromise1IndexesHangOnTheArgumentsAlone(t *testing.T) {
	indexes, texts, lists := anyIndexes(), anyIndexTexts(), anyFiles()
	paths, ids := []string{"a", "b", "d0/f0003", "none", "c", "d"}, []string{"b0001", "", "t0001", "b0002"}
	tell := func(i int) string {
		return tellIndex(slices.Clone(indexes[i%len(indexes)]), strings.Clone(texts[i%len(texts)]), slices.Clone(lists[i%len(lists)]), int64(i*7%6-1), strings.Clone(paths[i*5%len(paths)]), strings.Clone(ids[i*3%len(ids)]))
	}
	answers := make([]string, 480)
	for i := range answers {
		answers[i] = tell(i)
	}
	// Backwards each call stands behind other ones than before.
	for i := len(answers) - 1; i >= 0; i-- {
		if tell(i) != answers[i] {
			t.Errorf("round %d: another answer at the second call", i)
		}
	}
}

func TestPromise1IndexesChangeNoArgument(t *testing.T) {
	indexes, lists := anyIndexes(), anyFiles()
	for i := range 300 {
		// What lies behind a list in its memory is not the function's either.
		index := append(slices.Clone(indexes[i%len(indexes)]), impl.Entry{Path: "behind"})
		files := append(slices.Clone(lists[i*3%len(lists)]), impl.File{Path: "behind"})
		keptIndex, keptFiles := slices.Clone(index), slices.Clone(files)
		for mode, id := range map[int64]string{0: "", 1: "b0001", 2: "b0002"} {
			tellIndex(index[:len(index)-1], "sum 7\n", files[:len(files)-1], mode, []string{"a", "b", "c", "d"}[i%4], id)
		}
		if !slices.Equal(index, keptIndex) || !slices.Equal(files, keptFiles) {
			t.Errorf("round %d: a list was changed, or what lies behind it", i)
		}
	}
}

func textsOfIndex(index []impl.Entry) []string {
	var texts []string
	for _, entry := range index {
		texts = append(texts, entry.Path, entry.Id)
	}
	return texts
}

func TestPromise1IndexesAreNewMemory(t *testing.T) {
	index, settled, files := staged("a=123 b=0 c=23 d/e=1"), staged("a=0 b=0 c/d=0"), filesAt("a", "b/c", "d")
	text, path, id := impl.FormatIndex(index).Text, strings.Repeat("c", 1), strings.Repeat("b", 1)+"1234"
	given := slices.Concat(textsOfIndex(index), textsOfIndex(settled), textsOfFiles(files...), []string{text, path, id})
	keptIndex, keptSettled, keptFiles := slices.Clone(index), slices.Clone(settled), slices.Clone(files)
	entries := func() map[string][]impl.Entry {
		return map[string][]impl.Entry{"ParseIndex": impl.ParseIndex(text).Entries, "FilesIndex": impl.FilesIndex(files).Entries, "ResolvePath": impl.ResolvePath(index, path, 1, id).Entries, "ResolvePath, out": impl.ResolvePath(index, path, 0, "").Entries, "SwapStages": impl.SwapStages(index).Entries, "SwapStages of nothing to swap": impl.SwapStages(settled).Entries}
	}
	told := func() map[string][]impl.File {
		return map[string][]impl.File{"IndexFiles": impl.IndexFiles(settled).Files, "StageFiles": impl.StageFiles(index, 2).Files, "StageFiles 0": impl.StageFiles(settled, 0).Files}
	}
	wantEntries, wantFiles := entries(), told()
	for name, list := range entries() {
		if len(list) == 0 {
			t.Errorf("%s: nothing is told", name)
		}
		wantNewTexts(t, name, given, textsOfIndex(list))
		clear(list)
	}
	for name, list := range told() {
		if len(list) == 0 {
			t.Errorf("%s: nothing is told", name)
		}
		wantNewTexts(t, name, given, textsOfFiles(list...))
		clear(list)
	}
	clashes := impl.ClashesIn(index)
	wantNewTexts(t, "ClashesIn", given, slices.Clone(clashes.Lines))
	clear(clashes.Lines)
	wantNewTexts(t, "FormatIndex", given, []string{impl.FormatIndex(index).Text, impl.FormatIndex(nil).Text})
	if !maps.EqualFunc(entries(), wantEntries, slices.Equal) || !maps.EqualFunc(told(), wantFiles, slices.Equal) || len(impl.ClashesIn(index).Lines) != 3 {
		t.Error("two answers share their list")
	}
	if !slices.Equal(index, keptIndex) || !slices.Equal(settled, keptSettled) || !slices.Equal(files, keptFiles) {
		t.Error("an answer shares its list with an argument")
	}
}
