package tests

import (
	"fmt"
	"math"
	"math/rand"
	"slices"
	"strings"
	"testing"

	"loop.example/g00172/impl"
)

// noFile: what stands for a file that is none.
var noFile = impl.File{}

// kindOfPathByWords asks first which files there are, and then which are the same.
func kindOfPathByWords(base impl.File, ours impl.File, theirs impl.File) int64 {
	isOursChanged, isTheirsChanged, areTwo := ours != base, theirs != base, ours != theirs
	if !areTwo {
		return 0
	}
	if isOursChanged && !isTheirsChanged {
		return 1
	}
	if isTheirsChanged && !isOursChanged {
		return 2
	}
	if ours != noFile && theirs != noFile {
		return 3
	}
	return 4
}

func hasBlobsByWords(store []impl.Object, files []impl.File) bool {
	for _, file := range files {
		if getByWords(store, 1, file.Id).Code != impl.OK {
			return false
		}
	}
	return storeFaultByWords(store) == impl.OK
}

// mergeTextsByWords takes texts without a fault.
func mergeTextsByWords(base string, ours string, theirs string) impl.MergeResult {
	lines := func(text string) []string {
		return slices.DeleteFunc(strings.SplitAfter(text, "\n"), func(line string) bool { return line == "" })
	}
	return mergeByWords(chunksByWords(lines(base), lines(ours), lines(theirs)))
}

// pathFaultsByWords: the codes that MergePath tells ahead of merging.
func pathFaultsByWords(store []impl.Object, files [3]impl.File) int64 {
	if code := storeFaultByWords(store); code != impl.OK {
		return code
	}
	var there []impl.File
	for _, file := range files {
		if file == noFile {
			continue
		}
		if code := filesFaultByWords([]impl.File{file}); code != impl.OK {
			return code
		}
		for _, ahead := range there {
			if ahead.Path != file.Path {
				return impl.ErrForm
			}
		}
		there = append(there, file)
	}
	if !hasBlobsByWords(store, there) {
		return impl.ErrNone
	}
	return impl.OK
}

func mergePathByWords(store []impl.Object, base impl.File, ours impl.File, theirs impl.File) impl.TreesResult {
	if code := pathFaultsByWords(store, [3]impl.File{base, ours, theirs}); code != impl.OK {
		return impl.TreesResult{Code: code}
	}
	r := impl.TreesResult{Store: slices.Clone(store)}
	settled := func(file impl.File) impl.TreesResult {
		if file != noFile {
			r.Index = []impl.Entry{{Path: file.Path, Mode: file.Mode, Id: file.Id}}
		}
		return r
	}
	clashing := func(text string) impl.TreesResult {
		path := ""
		for i, file := range []impl.File{base, ours, theirs} {
			if file != noFile {
				r.Index = append(r.Index, impl.Entry{Path: file.Path, Stage: int64(i + 1), Mode: file.Mode, Id: file.Id})
				path = file.Path
			}
		}
		r.Works = []impl.Work{{Path: path, Text: text}}
		return r
	}
	text := func(file impl.File) string { return getByWords(store, 1, file.Id).Object.Data }
	switch kindOfPathByWords(base, ours, theirs) {
	case 0, 1:
		return settled(ours)
	case 2:
		return settled(theirs)
	case 4:
		if ours == noFile {
			return clashing(text(theirs))
		}
		return clashing(text(ours))
	}
	made, work, doesClash := ours, text(ours), false
	if ours.Mode != theirs.Mode {
		// Of two modes the base has one, and the other one is new.
		doesClash = base == noFile
		made.Mode = 3 - base.Mode
	}
	switch {
	case ours.Id == theirs.Id:
	case base != noFile && theirs.Id == base.Id:
	case base != noFile && ours.Id == base.Id:
		made.Id = theirs.Id
	case strings.ContainsRune(text(base)+text(ours)+text(theirs), 0):
		doesClash = true
	default:
		merged := mergeTextsByWords(text(base), text(ours), text(theirs))
		if merged.Code == impl.OK {
			work = merged.Text
		}
		if merged.Code != impl.OK || merged.Clashes > 0 {
			doesClash = true
			break
		}
		put := putByWords(store, 1, merged.Text)
		if put.Code != impl.OK {
			return impl.TreesResult{Code: put.Code}
		}
		made.Id, r.Store = put.Id, put.Store
	}
	if doesClash {
		return clashing(work)
	}
	return settled(made)
}

func mergeTreesByWords(store []impl.Object, base []impl.File, ours []impl.File, theirs []impl.File) impl.TreesResult {
	if code := storeFaultByWords(store); code != impl.OK {
		return impl.TreesResult{Code: code}
	}
	var paths []string
	for _, files := range [][]impl.File{base, ours, theirs} {
		if code := filesFaultByWords(files); code != impl.OK {
			return impl.TreesResult{Code: code}
		}
		for _, file := range files {
			paths = append(paths, file.Path)
		}
	}
	if !hasBlobsByWords(store, slices.Concat(base, ours, theirs)) {
		return impl.TreesResult{Code: impl.ErrNone}
	}
	slices.Sort(paths)
	ofBase, ofOurs, ofTheirs := byPaths(base), byPaths(ours), byPaths(theirs)
	made := impl.TreesResult{Store: store}
	for _, path := range slices.Compact(paths) {
		r := mergePathByWords(made.Store, ofBase[path], ofOurs[path], ofTheirs[path])
		if r.Code != impl.OK {
			return impl.TreesResult{Code: r.Code}
		}
		made = impl.TreesResult{Store: r.Store, Index: append(made.Index, r.Index...), Works: append(made.Works, r.Works...)}
	}
	if len(made.Index) > maxEntries {
		return impl.TreesResult{Code: impl.ErrMany}
	}
	for _, entry := range made.Index {
		for _, other := range made.Index {
			if inDirByWords(entry.Path, other.Path) {
				return impl.TreesResult{Code: impl.ErrTaken}
			}
		}
	}
	return made
}

func sameTreesResult(a impl.TreesResult, b impl.TreesResult) bool {
	return a.Code == b.Code && slices.Equal(a.Store, b.Store) && slices.Equal(a.Index, b.Index) && slices.Equal(a.Works, b.Works)
}

func workPaths(works []impl.Work) []string {
	var paths []string
	for _, work := range works {
		paths = append(paths, work.Path)
	}
	return paths
}

// wantTurned asks of promise 12 that whoever's side is which, both merge to the same.
func wantTurned(t *testing.T, name string, r impl.TreesResult, turned impl.TreesResult) {
	t.Helper()
	if turned.Code != r.Code || !slices.Equal(turned.Store, r.Store) {
		t.Errorf("%s: turned round it is %+v, was %+v", name, turned, r)
	}
	if swapped := impl.SwapStages(r.Index); swapped.Code != impl.OK || !slices.Equal(turned.Index, swapped.Entries) {
		t.Errorf("%s: turned round the index is %+v, want %+v", name, turned.Index, swapped)
	}
	if !slices.Equal(workPaths(turned.Works), workPaths(r.Works)) {
		t.Errorf("%s: turned round the works are %+v, were %+v", name, turned.Works, r.Works)
	}
}

// wantVersions asks of promise 12 that each path that clashes has its versions, and of the answer that it is whole.
func wantVersions(t *testing.T, name string, store []impl.Object, sides [3][]impl.File, r impl.TreesResult) {
	t.Helper()
	if code := impl.IndexFault(r.Index); code != impl.OK {
		t.Errorf("%s: the index has the fault %d: %+v", name, code, r.Index)
	}
	if code := impl.StoreFault(r.Store); code != impl.OK {
		t.Errorf("%s: the store has the fault %d", name, code)
	}
	for _, object := range store {
		if !slices.Contains(r.Store, object) {
			t.Errorf("%s: %q is lost", name, object.Id)
		}
	}
	clashes := impl.ClashesIn(r.Index).Lines
	if !slices.Equal(workPaths(r.Works), clashes) {
		t.Errorf("%s: the works are %+v, and %q clash", name, r.Works, clashes)
	}
	for stage, files := range sides {
		at := slices.DeleteFunc(slices.Clone(files), func(file impl.File) bool { return !slices.Contains(clashes, file.Path) })
		if told := impl.StageFiles(r.Index, int64(stage)+1); !sameFilesResult(told, impl.FilesResult{Files: at}) {
			t.Errorf("%s: at stage %d stand %+v, want %+v", name, stage+1, told, at)
		}
	}
	settled := impl.StageFiles(r.Index, 0).Files
	if !impl.HasBlobs(r.Store, settled) {
		t.Errorf("%s: a blob of %+v is not there", name, settled)
	}
	for _, work := range r.Works {
		if code := impl.TextFault(work.Text); code != impl.OK {
			t.Errorf("%s: the text of %s has the fault %d", name, work.Path, code)
		}
		if text := impl.WorkText(r.Works, work.Path); text != (impl.TextResult{Text: work.Text}) {
			t.Errorf("%s: WorkText of %s is %+v", name, work.Path, text)
		}
	}
}

func wantMergedPath(t *testing.T, name string, store []impl.Object, base impl.File, ours impl.File, theirs impl.File) impl.TreesResult {
	t.Helper()
	got, want := impl.MergePath(store, base, ours, theirs), mergePathByWords(store, base, ours, theirs)
	if !sameTreesResult(got, want) {
		t.Errorf("%s: MergePath of %+v, %+v, %+v = %+v, want %+v", name, base, ours, theirs, got, want)
	}
	if got.Code != impl.OK {
		return got
	}
	wantTurned(t, name, got, impl.MergePath(store, base, theirs, ours))
	var sides [3][]impl.File
	for i, file := range []impl.File{base, ours, theirs} {
		if file != noFile {
			sides[i] = []impl.File{file}
		}
	}
	wantVersions(t, name, store, sides, got)
	return got
}

// wantTaken asks of promise 12 that files that one side alone changed, or both in the same way, are taken.
func wantTaken(t *testing.T, name string, store []impl.Object, base []impl.File, changed []impl.File) {
	t.Helper()
	want := impl.TreesResult{Store: store, Index: impl.FilesIndex(changed).Entries}
	for side, r := range []impl.TreesResult{impl.MergeTrees(store, base, base, changed), impl.MergeTrees(store, base, changed, base), impl.MergeTrees(store, base, changed, changed)} {
		if !sameTreesResult(r, want) {
			t.Errorf("%s: what one side alone changed (%d) is %+v, want %+v", name, side, r, want)
		}
	}
}

func wantMergedTrees(t *testing.T, name string, store []impl.Object, base []impl.File, ours []impl.File, theirs []impl.File) impl.TreesResult {
	t.Helper()
	got, want := impl.MergeTrees(store, base, ours, theirs), mergeTreesByWords(store, base, ours, theirs)
	if !sameTreesResult(got, want) {
		t.Errorf("%s: MergeTrees of %+v, %+v, %+v = %+v, want %+v", name, base, ours, theirs, got, want)
	}
	if got.Code != impl.OK {
		return got
	}
	wantTurned(t, name, got, impl.MergeTrees(store, base, theirs, ours))
	wantVersions(t, name, store, [3][]impl.File{base, ours, theirs}, got)
	wantTaken(t, name, store, base, ours)
	wantTaken(t, name, store, base, theirs)
	return got
}

// manyVersions: files that are zero, that differ in one field alone, and that have faults.
func manyVersions() []impl.File {
	return []impl.File{
		{},
		{Path: "a", Mode: 1, Id: "b0001"}, {Path: "a", Mode: 2, Id: "b0001"}, {Path: "a", Mode: 1, Id: "b0002"}, {Path: "b", Mode: 1, Id: "b0001"},
		{Path: "a"}, {Mode: 1}, {Id: "b0001"}, {Path: " "}, {Mode: -1}, {Id: " "},
		{Path: "/", Mode: math.MinInt64, Id: "x"}, {Path: "\x00", Mode: math.MaxInt64, Id: strings.Repeat("x", 5000)},
	}
}

func TestMergeKind(t *testing.T) {
	a := impl.File{Path: "a", Mode: 1, Id: "b0001"}
	run := impl.File{Path: "a", Mode: 2, Id: "b0001"}
	text := impl.File{Path: "a", Mode: 1, Id: "b0002"}
	for _, c := range []struct {
		name               string
		base, ours, theirs impl.File
		kind               int64
	}{
		{"all the same", a, a, a, 0},
		{"all three zero", noFile, noFile, noFile, 0},
		{"the same on both sides", a, run, run, 0},
		{"the same on both sides, none at the base", noFile, a, a, 0},
		{"gone on both sides", a, noFile, noFile, 0},
		{"ours of another mode", a, run, a, 1},
		{"ours of another id", a, text, a, 1},
		{"ours is gone", a, noFile, a, 1},
		{"ours came", noFile, a, noFile, 1},
		{"theirs of another mode", a, a, run, 2},
		{"theirs of another id", a, a, text, 2},
		{"theirs is gone", a, a, noFile, 2},
		{"theirs came", noFile, noFile, a, 2},
		{"another mode, another id", a, run, text, 3},
		{"another id, another mode", a, text, run, 3},
		{"other ids", a, text, impl.File{Path: "a", Mode: 1, Id: "b0003"}, 3},
		{"two modes, none at the base", noFile, a, run, 3},
		{"two ids, none at the base", noFile, a, text, 3},
		{"one another path", a, text, impl.File{Path: "b", Mode: 1, Id: "b0001"}, 3},
		{"ours gone, theirs of another mode", a, noFile, run, 4},
		{"ours gone, theirs of another id", a, noFile, text, 4},
		{"theirs gone, ours of another mode", a, run, noFile, 4},
		{"theirs gone, ours of another id", a, text, noFile, 4},
		{"files with faults", impl.File{Mode: 1}, impl.File{Mode: 2}, impl.File{Mode: 3}, 3},
		{"a path alone is a file", impl.File{Path: "a"}, impl.File{Path: "b"}, noFile, 4},
		{"a mode alone is a file", noFile, impl.File{Mode: -1}, noFile, 1},
		{"an id alone is a file", noFile, noFile, impl.File{Id: "x"}, 2},
	} {
		if kind := impl.MergeKind(c.base, c.ours, c.theirs); kind != c.kind {
			t.Errorf("%s: %d, want %d", c.name, kind, c.kind)
		}
	}
	kinds := map[int64]int{}
	for _, base := range manyVersions() {
		for _, ours := range manyVersions() {
			for _, theirs := range manyVersions() {
				kind, want := impl.MergeKind(base, ours, theirs), kindOfPathByWords(base, ours, theirs)
				if kind != want {
					t.Errorf("%+v, %+v, %+v: %d, want %d", base, ours, theirs, kind, want)
				}
				// Whoever's side is which: the kinds of one side alone change.
				if turned := impl.MergeKind(base, theirs, ours); turned != []int64{0, 2, 1, 3, 4}[kind] {
					t.Errorf("%+v, %+v, %+v: %d, turned round %d", base, ours, theirs, kind, turned)
				}
				kinds[kind]++
			}
		}
	}
	if len(kinds) != 5 {
		t.Errorf("not all kinds: %v", kinds)
	}
}

func TestHasBlobs(t *testing.T) {
	a, b := objectOf(1, "a"), objectOf(1, "b")
	tree, commit := objectOf(2, "x"), objectOf(3, "x")
	store := storeOf(a, b, tree, commit)
	file := func(id string) impl.File { return impl.File{Path: "a", Mode: 1, Id: id} }
	for _, c := range []struct {
		name  string
		store []impl.Object
		files []impl.File
		has   bool
	}{
		{"no files", store, nil, true},
		{"no files, an empty list", store, []impl.File{}, true},
		{"no files, no store", nil, nil, true},
		{"one", store, []impl.File{file(a.Id)}, true},
		{"both", store, []impl.File{file(a.Id), file(b.Id)}, true},
		{"one twice", store, []impl.File{file(a.Id), file(a.Id)}, true},
		{"files with faults, whose blobs are there", store, []impl.File{{Id: a.Id}, {Path: "/", Mode: 9, Id: b.Id}}, true},
		{"more files than may be", store, slices.Repeat([]impl.File{file(a.Id)}, 1000), true},
		{"no store", nil, []impl.File{file(a.Id)}, false},
		{"not there", store, []impl.File{file("b1234")}, false},
		{"the first not there", store, []impl.File{file("b1234"), file(a.Id)}, false},
		{"the last not there", store, []impl.File{file(a.Id), file(b.Id), file("b1234")}, false},
		{"more files than may be, the last not there", store, append(slices.Repeat([]impl.File{file(a.Id)}, 1000), file("b1234")), false},
		{"a tree", store, []impl.File{file(tree.Id)}, false},
		{"a commit", store, []impl.File{file(commit.Id)}, false},
		{"a blob whose digest that of a tree is", store, []impl.File{file("b" + tree.Id[1:])}, false},
		{"a zero file", store, make([]impl.File, 1), false},
	} {
		if has := impl.HasBlobs(c.store, c.files); has != c.has || has != hasBlobsByWords(c.store, c.files) {
			t.Errorf("%s: %v, want %v", c.name, has, c.has)
		}
	}
	for _, id := range wrongIds {
		if impl.HasBlobs(store, []impl.File{file(id)}) {
			t.Errorf("it has a blob of %.40q", id)
		}
	}
	for _, id := range []string{a.Id + " ", a.Id + "\x00", " " + a.Id, strings.ToUpper(a.Id), a.Id + a.Id} {
		if impl.HasBlobs(store, []impl.File{file(id)}) {
			t.Errorf("it has a blob of %.40q", id)
		}
	}
	for name, c := range faultyStores() {
		var there []impl.File
		for _, object := range c.store {
			if object.Kind == 1 && len(there) < 3 {
				there = append(there, file(object.Id))
			}
		}
		for _, files := range [][]impl.File{nil, {}, there, {file(a.Id)}, make([]impl.File, 1)} {
			if impl.HasBlobs(c.store, files) {
				t.Errorf("%s: it has the blobs of %+v", name, files)
			}
		}
	}
}

// version: a file of the path x told as its mode, a colon, and its text with a bar for each line feed; of nothing it is none. And its blobs.
func version(told string) (impl.File, []impl.Object) {
	if told == "" {
		return noFile, nil
	}
	mode, text, _ := strings.Cut(told, ":")
	blob := objectOf(1, barred(text))
	return impl.File{Path: "x", Mode: int64(mode[0] - '0'), Id: blob.Id}, []impl.Object{blob}
}

// withBars: the text with a bar for each line feed, and other signs for the bars of a clash.
func withBars(text string) string {
	return strings.NewReplacer("|", "^", "\n", "|").Replace(text)
}

// tellMerged: the entries, each with its path, stage, mode, and text, and the works behind them, with bars for line feeds.
func tellMerged(r impl.TreesResult) string {
	var told []string
	for _, entry := range r.Index {
		text := getByWords(r.Store, 1, entry.Id).Object.Data
		told = append(told, fmt.Sprintf("%s %d %d:%s", entry.Path, entry.Stage, entry.Mode, withBars(text)))
	}
	for _, work := range r.Works {
		told = append(told, work.Path+"="+withBars(work.Text))
	}
	return strings.Join(told, ", ")
}

func TestPromise12KnownPaths(t *testing.T) {
	for _, c := range []struct {
		name               string
		base, ours, theirs string
		want               string
	}{
		{"nothing at all", "", "", "", ""},
		{"kind 0: all the same", "1:a|", "1:a|", "1:a|", "x 0 1:a|"},
		{"kind 0: both made the same", "1:a|", "2:b|", "2:b|", "x 0 2:b|"},
		{"kind 0: it came on both sides", "", "2:b|", "2:b|", "x 0 2:b|"},
		{"kind 0: it is gone on both sides", "1:a|", "", "", ""},
		{"kind 0: binary", "1:a|", "1:\x00", "1:\x00", "x 0 1:\x00"},
		{"kind 1: ours is new", "1:a|", "1:b|", "1:a|", "x 0 1:b|"},
		{"kind 1: ours has a mode", "1:a|", "2:a|", "1:a|", "x 0 2:a|"},
		{"kind 1: ours came", "", "2:b|", "", "x 0 2:b|"},
		{"kind 1: ours is gone", "1:a|", "", "1:a|", ""},
		{"kind 1: binary", "1:\x00", "1:\x00|", "1:\x00", "x 0 1:\x00|"},
		{"kind 2: theirs is new", "1:a|", "1:a|", "1:b|", "x 0 1:b|"},
		{"kind 2: theirs has a mode", "1:a|", "1:a|", "2:a|", "x 0 2:a|"},
		{"kind 2: theirs came", "", "", "2:b|", "x 0 2:b|"},
		{"kind 2: theirs is gone", "1:a|", "1:a|", "", ""},

		{"kind 3: a mode here, a text there", "1:a|", "2:a|", "1:b|", "x 0 2:b|"},
		{"kind 3: a text here, a mode there", "1:a|", "1:b|", "2:a|", "x 0 2:b|"},
		{"kind 3: the mode goes back", "2:a|", "1:a|", "2:b|", "x 0 1:b|"},
		{"kind 3: the mode goes back, there", "2:a|", "2:b|", "1:a|", "x 0 1:b|"},
		{"kind 3: one text, a mode here", "1:a|", "2:b|", "1:b|", "x 0 2:b|"},
		{"kind 3: one text, a mode there", "1:a|", "1:b|", "2:b|", "x 0 2:b|"},
		{"kind 3: a mode and text here, nothing but a text there", "1:1|2|3|", "2:0|2|3|", "1:1|2|4|", "x 0 2:0|2|4|"},
		{"kind 3: one mode that is new", "1:1|2|3|", "2:0|2|3|", "2:1|2|4|", "x 0 2:0|2|4|"},
		{"kind 3: the base's mode, texts that merge", "2:1|2|3|", "2:0|2|3|", "2:1|2|4|", "x 0 2:0|2|4|"},
		{"kind 3: one mode that is new, one text the base's", "1:a|", "2:a|", "2:b|", "x 0 2:b|"},
		{"kind 3: one mode that is new, the other text the base's", "1:a|", "2:b|", "2:a|", "x 0 2:b|"},
		{"kind 3: binary, with nothing to be merged", "1:\x00", "2:\x00", "1:b|", "x 0 2:b|"},
		{"kind 3: binary, with nothing to be merged, theirs", "1:a|", "2:a|", "1:\x00", "x 0 2:\x00"},
		{"kind 3: binary, with nothing to be merged, ours", "1:a|", "1:\x00", "2:a|", "x 0 2:\x00"},
		{"kind 3: binary, one text", "1:a|", "2:\x00", "1:\x00", "x 0 2:\x00"},
		{"kind 3: all lines gone on one side, one on the other", "1:1|2|", "1:", "1:1|", "x 1 1:1|2|, x 2 1:, x 3 1:1|, x=<<<<<<<|^^^^^^^|1|2|=======|1|>>>>>>>|"},
		{"kind 3: texts without a line feed", "1:1|2|3", "1:0|2|3", "1:1|2|4", "x 0 1:0|2|4"},
		{"kind 3: to what ours is", "1:1|2|3|", "1:0|2|4|", "1:1|2|4|", "x 0 1:0|2|4|"},
		{"kind 3: to what theirs is", "1:1|2|3|", "1:0|2|3|", "1:0|2|4|", "x 0 1:0|2|4|"},

		{"kind 3: texts that clash", "1:a|", "1:b|", "1:c|", "x 1 1:a|, x 2 1:b|, x 3 1:c|, x=<<<<<<<|b|^^^^^^^|a|=======|c|>>>>>>>|"},
		{"kind 3: texts that clash, with a mode", "1:a|", "2:b|", "1:c|", "x 1 1:a|, x 2 2:b|, x 3 1:c|, x=<<<<<<<|b|^^^^^^^|a|=======|c|>>>>>>>|"},
		{"kind 3: texts that clash, between others", "1:1|2|a|3|4|", "1:0|2|b|3|4|", "1:1|2|c|3|5|", "x 1 1:1|2|a|3|4|, x 2 1:0|2|b|3|4|, x 3 1:1|2|c|3|5|, x=0|2|<<<<<<<|b|^^^^^^^|a|=======|c|>>>>>>>|3|5|"},
		{"kind 3: no base, two texts", "", "1:b|", "1:c|", "x 2 1:b|, x 3 1:c|, x=<<<<<<<|b|^^^^^^^|=======|c|>>>>>>>|"},
		{"kind 3: no base, two texts, two modes", "", "1:b|", "2:c|", "x 2 1:b|, x 3 2:c|, x=<<<<<<<|b|^^^^^^^|=======|c|>>>>>>>|"},
		{"kind 3: no base, one text, two modes", "", "1:b|", "2:b|", "x 2 1:b|, x 3 2:b|, x=b|"},
		{"kind 3: no base, one text, two modes, theirs first", "", "2:b|", "1:b|", "x 2 2:b|, x 3 1:b|, x=b|"},
		{"kind 3: no base, one empty text, two modes", "", "2:", "1:", "x 2 2:, x 3 1:, x="},
		{"kind 3: no base, ours is empty", "", "1:", "1:c|", "x 0 1:c|"},
		{"kind 3: no base, theirs is empty", "", "2:b|", "2:", "x 0 2:b|"},
		{"kind 3: no base, ours is empty, two modes", "", "1:", "2:c|", "x 2 1:, x 3 2:c|, x=c|"},
		{"kind 3: no base, theirs is empty, two modes", "", "2:b|", "1:", "x 2 2:b|, x 3 1:, x=b|"},
		{"kind 3: an empty base, ours is it", "1:", "2:", "1:c|", "x 0 2:c|"},
		{"kind 3: an empty base, two texts", "1:", "1:b|", "1:c|", "x 1 1:, x 2 1:b|, x 3 1:c|, x=<<<<<<<|b|^^^^^^^|=======|c|>>>>>>>|"},
		{"kind 3: the base is binary", "1:\x00", "1:b|", "1:c|", "x 1 1:\x00, x 2 1:b|, x 3 1:c|, x=b|"},
		{"kind 3: ours is binary", "1:a|", "1:\x00|", "1:c|", "x 1 1:a|, x 2 1:\x00|, x 3 1:c|, x=\x00|"},
		{"kind 3: theirs is binary", "1:a|", "1:b|", "1:\x00", "x 1 1:a|, x 2 1:b|, x 3 1:\x00, x=b|"},
		{"kind 3: all are binary", "1:\x00a", "1:\x00b", "1:\x00c", "x 1 1:\x00a, x 2 1:\x00b, x 3 1:\x00c, x=\x00b"},
		{"kind 3: texts would merge, a byte of 0 is in one", "1:1|2|3|", "1:\x00|2|3|", "1:1|2|4|", "x 1 1:1|2|3|, x 2 1:\x00|2|3|, x 3 1:1|2|4|, x=\x00|2|3|"},
		{"kind 3: no base, ours is binary, theirs empty", "", "1:\x00", "1:", "x 2 1:\x00, x 3 1:, x=\x00"},
		{"kind 3: no base, ours is empty, theirs binary", "", "1:", "1:\x00", "x 2 1:, x 3 1:\x00, x="},
		{"kind 3: no base, one binary text, two modes", "", "1:\x00", "2:\x00", "x 2 1:\x00, x 3 2:\x00, x=\x00"},

		{"kind 4: theirs is gone", "1:a|", "1:b|", "", "x 1 1:a|, x 2 1:b|, x=b|"},
		{"kind 4: ours is gone", "1:a|", "", "1:c|", "x 1 1:a|, x 3 1:c|, x=c|"},
		{"kind 4: theirs is gone, ours has a mode", "1:a|", "2:a|", "", "x 1 1:a|, x 2 2:a|, x=a|"},
		{"kind 4: ours is gone, theirs has a mode", "1:a|", "", "2:a|", "x 1 1:a|, x 3 2:a|, x=a|"},
		{"kind 4: theirs is gone, ours is empty", "1:a|", "1:", "", "x 1 1:a|, x 2 1:, x="},
		{"kind 4: theirs is gone, ours is binary", "1:a|", "1:\x00", "", "x 1 1:a|, x 2 1:\x00, x=\x00"},
		{"kind 4: ours is gone, the base is binary", "1:\x00", "", "1:c|", "x 1 1:\x00, x 3 1:c|, x=c|"},
	} {
		base, ofBase := version(c.base)
		ours, ofOurs := version(c.ours)
		theirs, ofTheirs := version(c.theirs)
		store := storeOnce(slices.Concat(ofBase, ofOurs, ofTheirs)...)
		r := wantMergedPath(t, c.name, store, base, ours, theirs)
		if told := tellMerged(r); r.Code != impl.OK || told != c.want {
			t.Errorf("%s: %d, %q, want %q", c.name, r.Code, told, c.want)
		}
		if kind := fmt.Sprintf("kind %d", impl.MergeKind(base, ours, theirs)); c.base+c.ours+c.theirs != "" && !strings.HasPrefix(c.name, kind) {
			t.Errorf("%s: it is %s", c.name, kind)
		}
		alone := func(file impl.File) []impl.File {
			return slices.DeleteFunc([]impl.File{file}, func(file impl.File) bool { return file == noFile })
		}
		if whole := wantMergedTrees(t, c.name, store, alone(base), alone(ours), alone(theirs)); !sameTreesResult(whole, r) {
			t.Errorf("%s: as a tree it is %+v, want %+v", c.name, whole, r)
		}
	}
}

// The texts of a merge whose outcome has a twin: other data of its name.
const mergeBase, mergeOurs, mergeTheirs, mergeMade = "1\n2\n3\n", "A\x90\n2\n3\n", "1\n2\n4\n", "A\x90\n2\n4\n"

// mergeTexts: texts that are empty, merge, clash, or are binary.
var mergeTexts = []string{"", mergeBase, mergeOurs, mergeTheirs, "A\x90\n2\n5", "\x00", "1\n\x00\n3\n"}

func blobsOf(texts ...string) []impl.Object {
	var blobs []impl.Object
	for _, text := range texts {
		blobs = append(blobs, objectOf(1, text))
	}
	return blobs
}

func TestPromise12EveryThreeSmallFiles(t *testing.T) {
	pool := []impl.File{noFile}
	for _, text := range mergeTexts {
		for mode := int64(1); mode <= 2; mode++ {
			pool = append(pool, impl.File{Path: "d/x", Mode: mode, Id: objectOf(1, text).Id})
		}
	}
	blobs := blobsOf(mergeTexts...)
	made := objectOf(1, mergeMade)
	stores := map[string][]impl.Object{
		"no others":               storeOf(blobs...),
		"the outcome is there":    storeOf(append(blobs, made)...),
		"its twin is there":       storeOf(append(blobs, objectOf(1, twin(mergeMade)))...),
		"room for one":            withOthers(maxObjects-1, blobs...),
		"full":                    withOthers(maxObjects, blobs...),
		"full, with the outcome":  withOthers(maxObjects, append(blobs, made)...),
		"full, with its twin":     withOthers(maxObjects, append(blobs, objectOf(1, twin(mergeMade)))...),
		"one blob is not there":   storeOf(blobs[1:]...),
		"trees and commits there": storeOf(append(blobs, objectOf(2, mergeMade), objectOf(3, mergeMade))...),
	}
	for name, store := range stores {
		codes, kinds, clashes := map[int64]int{}, map[int64]int{}, map[int]int{}
		for i := range len(pool) * len(pool) * len(pool) {
			// The full stores take their time, and one in seven of all is enough of them.
			if len(store) > 50 && i%7 != 0 && pool[i%len(pool)].Mode == 2 {
				continue
			}
			base, ours, theirs := pool[i/len(pool)/len(pool)], pool[i/len(pool)%len(pool)], pool[i%len(pool)]
			r := wantMergedPath(t, name, store, base, ours, theirs)
			codes[r.Code]++
			kinds[impl.MergeKind(base, ours, theirs)]++
			clashes[len(r.Works)]++
		}
		want := []int64{impl.OK}
		switch {
		case strings.Contains(name, "twin"):
			want = append(want, impl.ErrClash)
		case strings.HasPrefix(name, "full"):
			want = append(want, impl.ErrMany)
		case strings.Contains(name, "not there"):
			want = append(want, impl.ErrNone)
		}
		for _, code := range want {
			if codes[code] == 0 {
				t.Errorf("%s: not all codes: %v", name, codes)
			}
		}
		if len(codes) > 3 || len(kinds) != 5 || clashes[0] == 0 || clashes[1] == 0 {
			t.Errorf("%s: the codes are %v, the kinds %v, the works %v", name, codes, kinds, clashes)
		}
	}
}

func TestWhatIsMergedIsPut(t *testing.T) {
	blobs := blobsOf(mergeBase, mergeOurs, mergeTheirs)
	file := func(at int, mode int64) impl.File { return impl.File{Path: "x", Mode: mode, Id: blobs[at].Id} }
	base, ours, theirs := file(0, 1), file(1, 2), file(2, 1)
	made, other := objectOf(1, mergeMade), objectOf(1, twin(mergeMade))
	if made.Id != other.Id {
		t.Fatal("no twins")
	}
	for _, c := range []struct {
		name  string
		store []impl.Object
		code  int64
		more  int
	}{
		{"new", storeOf(blobs...), impl.OK, 1},
		{"there already", storeOf(append(blobs, made)...), impl.OK, 0},
		{"other data of its name", storeOf(append(blobs, other)...), impl.ErrClash, 0},
		{"a tree of its digest", storeOf(append(blobs, objectOf(2, mergeMade))...), impl.OK, 1},
		{"room for one", withOthers(maxObjects-1, blobs...), impl.OK, 1},
		{"no room", withOthers(maxObjects, blobs...), impl.ErrMany, 0},
		{"no room, there already", withOthers(maxObjects, append(blobs, made)...), impl.OK, 0},
		{"no room, and other data of its name", withOthers(maxObjects, append(blobs, other)...), impl.ErrClash, 0},
	} {
		want := impl.TreesResult{Code: c.code}
		if c.code == impl.OK {
			want.Store = c.store
			if c.more > 0 {
				want.Store = storeOf(append(slices.Clone(c.store), made)...)
			}
			want.Index = []impl.Entry{{Path: "x", Mode: 2, Id: made.Id}}
		}
		for _, r := range []impl.TreesResult{
			wantMergedPath(t, c.name, c.store, base, ours, theirs),
			wantMergedPath(t, c.name, c.store, base, theirs, ours),
			wantMergedTrees(t, c.name, c.store, []impl.File{base}, []impl.File{ours}, []impl.File{theirs}),
			wantMergedTrees(t, c.name, c.store, []impl.File{base}, []impl.File{theirs}, []impl.File{ours}),
		} {
			if !sameTreesResult(r, want) || c.code != impl.OK && (r.Store != nil || r.Index != nil || r.Works != nil) {
				t.Errorf("%s: %+v, want %+v", c.name, r, want)
			}
		}
		// What clashes, or is taken, puts nothing, whatever the room.
		for _, files := range [][3]impl.File{{base, noFile, theirs}, {noFile, ours, theirs}, {base, base, theirs}, {base, ours, ours}, {base, file(0, 2), theirs}} {
			r := wantMergedPath(t, c.name, c.store, files[0], files[1], files[2])
			if r.Code != impl.OK || !slices.Equal(r.Store, c.store) {
				t.Errorf("%s, %+v: the store is another one, or the code %d", c.name, files, r.Code)
			}
		}
	}
}

func TestTextsThatAreTooLongToBeMerged(t *testing.T) {
	joined := func(lines []string) string { return strings.Join(lines, "") }
	numbers := joined(numbered(1, maxLines-2))
	a, b := strings.Repeat("a", 999), strings.Repeat("b", 999)
	for _, c := range []struct {
		name               string
		base, ours, theirs string
		isMerged           bool
		clashes            int
	}{
		{"as many lines as may be", numbers, "x\n" + numbers, numbers + "y\n", true, 0},
		{"one line more", numbers, "x\n" + numbers, numbers + "y\nz\n", false, 1},
		{"as many bytes as may be", "1\nk\n2", a + "\nk\n2", "1\nk\n" + b[:998], true, 0},
		{"one byte more", "1\nk\n2", a + "\nk\n2", "1\nk\n" + b, false, 1},
		{"as many lines as may be with a clash", "", joined(numbered(1, 48)), joined(numbered(101, 148)), true, 1},
		{"one line more with a clash", "", joined(numbered(1, 48)), joined(numbered(101, 149)), false, 1},
		{"far too many lines with a clash", joined(numbered(201, 300)), joined(numbered(1, 100)), joined(numbered(101, 200)), false, 1},
		{"far too many bytes with a clash", strings.Repeat("c", maxText), strings.Repeat("a", maxText), strings.Repeat("b", maxText), false, 1},
	} {
		blobs := blobsOf(c.base, c.ours, c.theirs)
		for _, store := range [][]impl.Object{storeOf(blobs...), withOthers(maxObjects-1, blobs...)} {
			for _, sides := range [][2]int{{1, 2}, {2, 1}} {
				ours := blobs[sides[0]]
				r := wantMergedPath(t, c.name, store, impl.File{Path: "x", Mode: 1, Id: blobs[0].Id}, impl.File{Path: "x", Mode: 1, Id: ours.Id}, impl.File{Path: "x", Mode: 2, Id: blobs[sides[1]].Id})
				if r.Code != impl.OK || len(r.Works) != c.clashes || len(r.Index) != 1+2*c.clashes {
					t.Fatalf("%s: %d, %+v, %+v", c.name, r.Code, r.Index, r.Works)
				}
				// What could not be merged stands there as ours has it.
				if c.clashes > 0 && (r.Works[0].Text == ours.Data) == c.isMerged {
					t.Errorf("%s: the text is %q", c.name, r.Works[0].Text)
				}
				if len(r.Store) != len(store)+1-c.clashes {
					t.Errorf("%s: there were %d objects, and are %d", c.name, len(store), len(r.Store))
				}
			}
		}
	}
}

// wantPathCode: MergePath answers this code, and nothing beside it.
func wantPathCode(t *testing.T, name string, store []impl.Object, base impl.File, ours impl.File, theirs impl.File, code int64) {
	t.Helper()
	r := wantMergedPath(t, name, store, base, ours, theirs)
	if r.Code != code || code != impl.OK && (r.Store != nil || r.Index != nil || r.Works != nil) {
		t.Errorf("%s: %+v, want %d", name, r, code)
	}
}

func TestMergePathTellsItsCodes(t *testing.T) {
	a, b, c := objectOf(1, "a"), objectOf(1, "b"), objectOf(1, "c")
	tree, commit := objectOf(2, "x"), objectOf(3, "x")
	store := storeOf(a, b, c, tree, commit)
	file := func(path string, mode int64, id string) impl.File { return impl.File{Path: path, Mode: mode, Id: id} }
	right, away := file("x", 1, a.Id), file("x", 1, "b1234")
	form, wrong, none := int64(impl.ErrForm), int64(impl.ErrRange), int64(impl.ErrNone)
	wrongPath, wrongMode, wrongId := file("x/", 1, a.Id), file("x", 3, a.Id), file("x", 1, "x")
	moved, movedWrong, movedAway := file("y", 1, a.Id), file("y", 3, a.Id), file("y", 1, "b1234")
	for _, k := range []struct {
		name               string
		base, ours, theirs impl.File
		code               int64
	}{
		{"all right", right, file("x", 1, b.Id), file("x", 2, c.Id), impl.OK},
		{"all zero", noFile, noFile, noFile, impl.OK},
		{"the base alone, a wrong path", wrongPath, noFile, noFile, form},
		{"the base alone, a wrong mode", wrongMode, noFile, noFile, wrong},
		{"the base alone, a wrong id", wrongId, noFile, noFile, form},
		{"ours alone, a wrong path", noFile, wrongPath, noFile, form},
		{"ours alone, a wrong mode", noFile, wrongMode, noFile, wrong},
		{"ours alone, a wrong id", noFile, wrongId, noFile, form},
		{"theirs alone, a wrong path", noFile, noFile, wrongPath, form},
		{"theirs alone, a wrong mode", noFile, noFile, wrongMode, wrong},
		{"theirs alone, a wrong id", noFile, noFile, wrongId, form},
		{"a path alone", impl.File{Path: "x"}, right, right, wrong},
		{"a mode alone", right, impl.File{Mode: 1}, right, form},
		{"an id alone", right, right, impl.File{Id: a.Id}, form},
		{"a path and a mode", right, right, impl.File{Path: "x", Mode: 1}, form},
		{"a path and an id", right, right, impl.File{Path: "x", Id: a.Id}, wrong},
		{"all the same, with a wrong mode", wrongMode, wrongMode, wrongMode, wrong},
		{"all the same, with a wrong id", wrongId, wrongId, wrongId, form},
		{"an id of a tree", right, file("x", 1, tree.Id), right, form},
		{"an id of a commit", right, right, file("x", 1, commit.Id), form},
		{"a path of five names", file("a/b/c/d/e", 1, a.Id), noFile, noFile, form},
		{"a wrong path and mode and id", file("", 9, "x"), noFile, noFile, form},
		{"a wrong mode and id", noFile, file("x", 9, "x"), noFile, wrong},

		{"ours of another path", right, moved, right, form},
		{"ours of another path, theirs none", right, moved, noFile, form},
		{"theirs of another path", right, right, moved, form},
		{"theirs of another path, ours none", right, noFile, moved, form},
		{"theirs of another path, no base", noFile, right, moved, form},
		{"the base of another path", moved, right, right, form},
		{"all of other paths", right, moved, file("z", 1, a.Id), form},
		{"a path within", right, file("x/y", 1, a.Id), right, form},
		{"a path with more behind it", right, file("xy", 1, a.Id), right, form},
		{"a path that begins it", file("xy", 1, a.Id), right, file("xy", 1, a.Id), form},

		{"a wrong mode of the base ahead of another path of ours", wrongMode, moved, right, wrong},
		{"a wrong mode ahead of another path", right, movedWrong, right, wrong},
		{"a wrong mode ahead of another path, theirs", right, right, movedWrong, wrong},
		{"another path of ours ahead of a wrong mode of theirs", right, moved, wrongMode, form},
		{"another path of ours ahead of a wrong mode of theirs, with it", right, moved, movedWrong, form},
		{"a wrong mode of ours ahead of a wrong id of theirs", right, wrongMode, wrongId, wrong},
		{"a wrong id of ours ahead of a wrong mode of theirs", right, wrongId, wrongMode, form},
		{"a wrong id of the base ahead of a wrong mode of ours", wrongId, wrongMode, right, form},
		{"a wrong mode of the base ahead of a wrong id of ours", wrongMode, wrongId, right, wrong},
		{"a wrong mode of the base ahead of a wrong id of theirs", wrongMode, noFile, wrongId, wrong},

		{"the blob of the base not there", away, right, file("x", 1, b.Id), none},
		{"the blob of ours not there", right, away, file("x", 1, b.Id), none},
		{"the blob of theirs not there", right, file("x", 1, b.Id), away, none},
		{"no blob there", away, away, away, none},
		{"the blob of the base not there, and not asked for", away, right, right, none},
		{"the blob of the base not there, gone on both sides", away, noFile, noFile, none},
		{"the blob of ours not there, gone there", away, away, noFile, none},
		{"the blob of theirs alone not there", noFile, noFile, away, none},
		{"a blob whose digest is a tree's", right, file("x", 1, "b"+tree.Id[1:]), right, none},
		{"a blob not there behind a wrong mode", away, right, wrongMode, wrong},
		{"a blob not there behind a wrong id", right, away, wrongId, form},
		{"a blob not there behind another path", away, right, moved, form},
		{"a blob not there, of another path", right, right, movedAway, form},
	} {
		wantPathCode(t, k.name, store, k.base, k.ours, k.theirs, k.code)
		// The fault of the store is told ahead of all.
		for _, name := range []string{"another id", "too many", "kind 4", "not rising"} {
			faulty := faultyStores()[name]
			wantPathCode(t, k.name+", "+name, faulty.store, k.base, k.ours, k.theirs, faulty.code)
		}
	}
	for name, faulty := range faultyStores() {
		wantPathCode(t, name, faulty.store, noFile, noFile, noFile, faulty.code)
		wantPathCode(t, name, faulty.store, right, right, right, faulty.code)
	}
}

func TestMergePathOfEveryFault(t *testing.T) {
	a := objectOf(1, "a")
	pool := append(manyVersions(), impl.File{Path: "a", Mode: 1, Id: a.Id}, impl.File{Path: "a", Mode: 2, Id: a.Id}, impl.File{Path: "b", Mode: 3, Id: a.Id})
	codes := map[int64]int{}
	for _, base := range pool {
		for _, ours := range pool {
			for _, theirs := range pool {
				codes[wantMergedPath(t, "every fault", []impl.Object{a}, base, ours, theirs).Code]++
			}
		}
	}
	for _, code := range []int64{impl.OK, impl.ErrForm, impl.ErrRange, impl.ErrNone} {
		if codes[code] < 10 {
			t.Errorf("not all codes: %v", codes)
		}
	}
	for _, mode := range append(slices.Clone(wrongModes), 3) {
		for side := range 3 {
			var files [3]impl.File
			files[side] = impl.File{Path: "a", Mode: mode, Id: a.Id}
			wantPathCode(t, "a wrong mode", []impl.Object{a}, files[0], files[1], files[2], impl.ErrRange)
		}
	}
	for _, id := range append(slices.Clone(wrongIds), "t0007", "c0007") {
		for side := range 3 {
			var files [3]impl.File
			files[side] = impl.File{Path: "a", Mode: 1, Id: id}
			wantPathCode(t, "a wrong id", []impl.Object{a}, files[0], files[1], files[2], impl.ErrForm)
		}
	}
}

// treeOfTexts: files told as textFiles are, those with a star behind their path to be run; and their blobs.
func treeOfTexts(told string) ([]impl.File, []impl.Object) {
	files, blobs := textFiles(strings.Fields(told)...)
	for i, file := range files {
		path, isRun := strings.CutSuffix(file.Path, "*")
		files[i].Path = path
		if isRun {
			files[i].Mode = impl.ModeRun
		}
	}
	return files, blobs
}

// wantTreesTold: the trees that are told, with just their blobs, merge to what is told, or to a code.
func wantTreesTold(t *testing.T, base string, ours string, theirs string, code int64, want string) {
	t.Helper()
	name := strings.Join([]string{base, ours, theirs}, " / ")
	b, ofBase := treeOfTexts(base)
	o, ofOurs := treeOfTexts(ours)
	th, ofTheirs := treeOfTexts(theirs)
	r := wantMergedTrees(t, name, storeOnce(slices.Concat(ofBase, ofOurs, ofTheirs)...), b, o, th)
	if told := tellMerged(r); r.Code != code || told != want || code != impl.OK && (r.Store != nil || r.Index != nil || r.Works != nil) {
		t.Errorf("%s: %d, %q, want %d, %q", name, r.Code, told, code, want)
	}
}

func TestPromise12KnownTrees(t *testing.T) {
	for _, c := range []struct {
		base, ours, theirs string
		want               string
	}{
		{"", "", "", ""},
		{"a=1|", "a=1|", "a=1|", "a 0 1:1|"},
		{"", "a=1|", "b=2|", "a 0 1:1|, b 0 1:2|"},
		{"", "b=2|", "a=1|", "a 0 1:1|, b 0 1:2|"},
		{"c=3|", "b=2| c=3|", "a=1| c=3|", "a 0 1:1|, b 0 1:2|, c 0 1:3|"},
		{"a=1| b=2|", "a=1|", "b=2|", ""},
		{"a=1| b=2| c=3|", "a=1| c=3|", "b=2| c=3|", "c 0 1:3|"},
		{"a=1| b=2|", "a=x| b=2|", "a=1| b=y|", "a 0 1:x|, b 0 1:y|"},
		{"a=1|2|3|", "a*=0|2|3|", "a=1|2|4|", "a 0 2:0|2|4|"},
		{"a=1|", "a=2|", "a=3|", "a 1 1:1|, a 2 1:2|, a 3 1:3|, a=<<<<<<<|2|^^^^^^^|1|=======|3|>>>>>>>|"},
		{"a=1| b=1| c=1|", "a=2| c=1|", "a=2| b=3| c*=1|", "a 0 1:2|, b 1 1:1|, b 3 1:3|, c 0 2:1|, b=3|"},
		{"b=1|", "a=x| b=2| c=y|", "a*=x| c*=y|", "a 2 1:x|, a 3 2:x|, b 1 1:1|, b 2 1:2|, c 2 1:y|, c 3 2:y|, a=x|, b=2|, c=y|"},
		{"a-=1| a/b=1| a0=1|", "a-=2| a/b=1| a0=2|", "a-=3| a/b=4|", "a- 1 1:1|, a- 2 1:2|, a- 3 1:3|, a/b 0 1:4|, a0 1 1:1|, a0 2 1:2|, a-=<<<<<<<|2|^^^^^^^|1|=======|3|>>>>>>>|, a0=2|"},
		// One side made a directory of what the other left as it was.
		{"a=1|", "a/b=1|", "a=1|", "a/b 0 1:1|"},
		{"a=1|", "a/b=1|", "a/b=1|", "a/b 0 1:1|"},
		{"a=1|", "a/b=1| a/d=2|", "a/c=1|", "a/b 0 1:1|, a/c 0 1:1|, a/d 0 1:2|"},
		{"a/b=1|", "a=1|", "a/b=1|", "a 0 1:1|"},
		{"a/b=1| a/c=2|", "a=3|", "", "a 0 1:3|"},
	} {
		wantTreesTold(t, c.base, c.ours, c.theirs, impl.OK, c.want)
	}
}

func TestPathsThatAreTaken(t *testing.T) {
	for _, c := range []struct{ base, ours, theirs string }{
		// Both came: side by side, deep, within a directory, with others between, as the last ones.
		{"", "a=1|", "a/b=1|"},
		{"", "a=1|", "a/b/c/d=1|"},
		{"", "d/a=1|", "d/a/b=1|"},
		{"", "a=1| a-=1| a.=1|", "a-=1| a/b=1| b=1|"},
		{"", "0=1| 1=1| z/y=1|", "0=1| 1=1| z/y/x=1|"},
		// One clashes: the one that holds the other, by its text or its mode alone, and the one that is held.
		{"a=1|", "a=2|", "a/b=1|"},
		{"a=1|", "a*=1|", "a/b=1|"},
		{"a/b=1|", "a=1|", "a/b=2|"},
		{"a/b=1| a/c=1|", "a=1|", "a/b=2| a/c=1|"},
	} {
		wantTreesTold(t, c.base, c.ours, c.theirs, impl.ErrTaken, "")
		wantTreesTold(t, c.base, c.theirs, c.ours, impl.ErrTaken, "")
	}
	// Names that only begin alike take nothing.
	for _, c := range []struct{ ours, theirs string }{{"a=1|", "ab/c=1|"}, {"a=1|", "a-/b=1|"}, {"a/b=1|", "a/bc=1|"}, {"b=1|", "a/b=1|"}, {"a.b=1|", "a/b=1|"}} {
		ours, ofOurs := treeOfTexts(c.ours)
		theirs, ofTheirs := treeOfTexts(c.theirs)
		if r := wantMergedTrees(t, c.ours+" and "+c.theirs, storeOnce(append(ofOurs, ofTheirs...)...), nil, ours, theirs); r.Code != impl.OK || len(r.Index) != 2 {
			t.Errorf("%s and %s: %+v", c.ours, c.theirs, r)
		}
	}
}

// everyTree: every list of files at some of these paths, each with one of the modes and texts, that has no fault.
func everyTree(paths []string, texts []string) [][]impl.File {
	var trees [][]impl.File
	for _, files := range everyFiles(paths, texts) {
		for modes := range 1 << len(files) {
			tree := slices.Clone(files)
			for i := range tree {
				tree[i].Mode += int64(modes >> i & 1)
			}
			if filesFaultByWords(tree) == impl.OK {
				trees = append(trees, tree)
			}
		}
	}
	return trees
}

func TestPromise12EveryThreeSmallTrees(t *testing.T) {
	texts := []string{mergeBase, mergeOurs, mergeTheirs, "5\n2\n3\n"}
	store := storeOf(blobsOf(texts...)...)
	for _, paths := range [][]string{{"a", "a/b"}, {"a", "b"}} {
		trees := everyTree(paths, texts)
		codes, sizes := map[int64]int{}, map[int]int{}
		for i := range len(trees) * len(trees) * len(trees) {
			// Of so many some are enough; they are few where one path holds the other.
			if len(trees) > 20 && i%67 != 0 {
				continue
			}
			base, ours, theirs := trees[i/len(trees)/len(trees)], trees[i/len(trees)%len(trees)], trees[i%len(trees)]
			r := wantMergedTrees(t, "every small tree", store, base, ours, theirs)
			codes[r.Code]++
			sizes[len(r.Index)]++
		}
		if codes[impl.OK] < 1000 || strings.Contains(paths[1], "/") != (codes[impl.ErrTaken] > 0) || len(codes) > 2 || len(sizes) < 4 {
			t.Errorf("%q: the codes are %v, the sizes %v", paths, codes, sizes)
		}
	}
}

// randomChanges: the files with some gone, some others, and some that came.
func randomChanges(random *rand.Rand, files []impl.File, paths []string, blobs []impl.Object, changes int) []impl.File {
	held := byPaths(files)
	for range changes {
		path := paths[random.Intn(len(paths))]
		file, isThere := held[path]
		switch kind := random.Intn(5); {
		case kind == 0:
			delete(held, path)
		case kind == 1 && isThere:
			held[path] = impl.File{Path: path, Mode: 3 - file.Mode, Id: file.Id}
		case isThere || len(held) < maxFiles:
			held[path] = impl.File{Path: path, Mode: int64(random.Intn(8)/7 + 1), Id: blobs[random.Intn(len(blobs))].Id}
		}
	}
	var made []impl.File
	for _, path := range paths {
		if file, isThere := held[path]; isThere {
			made = append(made, file)
		}
	}
	return made
}

// alikeBlobs: texts that come of the first of them, so that many merge.
func alikeBlobs(random *rand.Rand, count int) []impl.Object {
	first := numbered(1, 9)
	blobs := blobsOf(strings.Join(first, ""))
	for len(blobs) < count {
		text := strings.Join(edited(random, first, 1+random.Intn(2)), "")
		if random.Intn(12) == 0 {
			text += "\x00"
		}
		blob := objectOf(1, text)
		if !slices.ContainsFunc(blobs, func(other impl.Object) bool { return other.Id == blob.Id }) {
			blobs = append(blobs, blob)
		}
	}
	return blobs
}

func TestPromise12RandomTrees(t *testing.T) {
	random := rand.New(rand.NewSource(20))
	codes, stages, works, put := map[int64]int{}, map[int64]int{}, map[int]int{}, 0
	for round := range 400 {
		blobs := alikeBlobs(random, 8+round%30)
		var paths []string
		for range []int{2, 8, 70}[round%3] {
			paths = append(paths, randomPath(random, round%5 == 0))
		}
		slices.Sort(paths)
		paths = slices.Compact(paths)
		base := randomChanges(random, nil, paths, blobs[:1+round%2*(len(blobs)-1)], 2*len(paths))
		ours := randomChanges(random, base, paths, blobs, random.Intn(3*len(paths)+1))
		theirs := randomChanges(random, base, paths, blobs, random.Intn(3*len(paths)+1))
		store := storeOf(blobs...)
		if round%4 == 0 {
			store = withOthers(maxObjects-round%3, blobs...)
		}
		r := wantMergedTrees(t, fmt.Sprintf("round %d", round), store, base, ours, theirs)
		codes[r.Code]++
		works[min(len(r.Works), 5)]++
		put += max(len(r.Store)-len(store), 0)
		for _, entry := range r.Index {
			stages[entry.Stage]++
		}
	}
	if codes[impl.OK] < 200 || codes[impl.ErrMany] == 0 || codes[impl.ErrTaken] == 0 || len(stages) != 4 || len(works) != 6 || put < 100 {
		t.Errorf("the trees do not reach all: %v, %v, %v, %d", codes, stages, works, put)
	}
}

// randomPath: of one name or, if it may be deep, of some that are names of files as well.
func randomPath(random *rand.Rand, isDeep bool) string {
	if !isDeep {
		return fmt.Sprintf("%s/f%d", partingNames[random.Intn(len(partingNames))], random.Intn(9))
	}
	return strings.Join(slices.Repeat([]string{partingNames[random.Intn(len(partingNames))]}, 1+random.Intn(3)), "/")
}

// fullTrees: as many files as may be on each side, of one path each in all three, with other texts.
func fullTrees(texts [3]string) ([3][]impl.File, []impl.Object) {
	var sides [3][]impl.File
	for side, text := range texts {
		for _, file := range fullFiles(maxFiles, 3) {
			sides[side] = append(sides[side], impl.File{Path: file.Path, Mode: 1, Id: objectOf(1, text).Id})
		}
	}
	return sides, storeOnce(blobsOf(texts[:]...)...)
}

func TestTreesOfAsManyFilesAsMayBe(t *testing.T) {
	sides, store := fullTrees([3]string{"a\n", "b\n", "c\n"})
	// Three times as many as a list may have are fewer than an index may have.
	if r := wantMergedTrees(t, "all clash", store, sides[0], sides[1], sides[2]); r.Code != impl.OK || len(r.Index) != 3*maxFiles || len(r.Works) != maxFiles {
		t.Errorf("all clash: %d, %d, %d", r.Code, len(r.Index), len(r.Works))
	}
	if r := wantMergedTrees(t, "no base", store, nil, sides[1], sides[2]); r.Code != impl.OK || len(r.Index) != 2*maxFiles || len(r.Works) != maxFiles {
		t.Errorf("no base: %d, %d, %d", r.Code, len(r.Index), len(r.Works))
	}
	if r := wantMergedTrees(t, "all gone there", store, sides[0], sides[1], nil); r.Code != impl.OK || len(r.Index) != 2*maxFiles || len(r.Works) != maxFiles {
		t.Errorf("all gone there: %d, %d, %d", r.Code, len(r.Index), len(r.Works))
	}
	others := slices.Clone(sides[2])
	for i := range others {
		others[i].Path = fmt.Sprintf("z/%02d", i)
	}
	// All that is settled may be more than a list of files may have.
	if r := wantMergedTrees(t, "all came", store, nil, sides[1], others); r.Code != impl.OK || len(r.Index) != 2*maxFiles || len(r.Works) != 0 {
		t.Errorf("all came: %d, %d, %d", r.Code, len(r.Index), len(r.Works))
	}
	merging, store := fullTrees([3]string{mergeBase, mergeOurs, mergeTheirs})
	if r := wantMergedTrees(t, "all merge", store, merging[0], merging[1], merging[2]); r.Code != impl.OK || len(r.Index) != maxFiles || len(r.Works) != 0 || len(r.Store) != 4 {
		t.Errorf("all merge: %d, %d, %d, %d", r.Code, len(r.Index), len(r.Works), len(r.Store))
	}
}

// namedTrees: the same files in all three lists, each with a text of its own that merges.
func namedTrees(told map[string][3]string) ([3][]impl.File, []impl.Object) {
	var sides [3][]impl.File
	var blobs []impl.Object
	var paths []string
	for path := range told {
		paths = append(paths, path)
	}
	slices.Sort(paths)
	for _, path := range paths {
		for side, text := range told[path] {
			blob := objectOf(1, text)
			sides[side] = append(sides[side], impl.File{Path: path, Mode: 1, Id: blob.Id})
			blobs = append(blobs, blob)
		}
	}
	return sides, storeOnce(blobs...)
}

func TestPathsAreMergedOneBehindTheOther(t *testing.T) {
	first := [3]string{mergeBase, mergeOurs, mergeTheirs}
	// What comes of it has the name of what comes of the first.
	second := [3]string{"5\n2\n6\n", "B\x0d\n2\n6\n", "5\n2\n4\n"}
	third := [3]string{"7\n8\n9\n", "0\n8\n9\n", "7\n8\n0\n"}
	clash := [3]string{"a\n", "b\n", "c\n"}
	if twin(mergeMade) != mergeTextsByWords(second[0], second[1], second[2]).Text {
		t.Fatal("no twins")
	}
	other := objectOf(1, twin(mergeMade))
	for _, c := range []struct {
		name  string
		trees map[string][3]string
		room  int
		more  []impl.Object
		code  int64
		put   int
	}{
		{"two of one outcome", map[string][3]string{"a": first, "b": first}, 2, nil, impl.OK, 1},
		{"two of one outcome, room for one", map[string][3]string{"a": first, "b": first}, 1, nil, impl.OK, 1},
		{"two, room for both", map[string][3]string{"a": first, "b": third}, 2, nil, impl.OK, 2},
		{"two, room for one", map[string][3]string{"a": first, "b": third}, 1, nil, impl.ErrMany, 0},
		{"two, no room", map[string][3]string{"a": first, "b": third}, 0, nil, impl.ErrMany, 0},
		{"two outcomes of one name", map[string][3]string{"a": first, "b": second}, 2, nil, impl.ErrClash, 0},
		{"two outcomes of one name, the other way round", map[string][3]string{"a": second, "b": first}, 2, nil, impl.ErrClash, 0},
		{"two outcomes of one name, room for one", map[string][3]string{"a": first, "b": second}, 1, nil, impl.ErrClash, 0},
		{"two outcomes of one name, no room", map[string][3]string{"a": first, "b": second}, 0, nil, impl.ErrMany, 0},
		{"the other is there", map[string][3]string{"a": first, "b": third}, 1, []impl.Object{other}, impl.ErrClash, 0},
		{"the other is there, no room, it comes first", map[string][3]string{"a": first, "b": third}, 0, []impl.Object{other}, impl.ErrClash, 0},
		{"the other is there, no room, it comes last", map[string][3]string{"a": third, "b": first}, 0, []impl.Object{other}, impl.ErrMany, 0},
		{"the other is there, and it is made too", map[string][3]string{"a": second, "b": third}, 1, []impl.Object{other}, impl.OK, 1},
		{"a clash first", map[string][3]string{"a": clash, "b": first, "c": clash, "d": third}, 2, nil, impl.OK, 2},
		{"a clash first, no room", map[string][3]string{"a": clash, "b": first}, 0, nil, impl.ErrMany, 0},
		{"clashes alone, no room", map[string][3]string{"a": clash, "b": clash}, 0, nil, impl.OK, 0},
	} {
		sides, blobs := namedTrees(c.trees)
		store := withOthers(maxObjects-c.room, append(blobs, c.more...)...)
		r := wantMergedTrees(t, c.name, store, sides[0], sides[1], sides[2])
		if r.Code != c.code || c.code == impl.OK && len(r.Store) != len(store)+c.put || c.code != impl.OK && (r.Store != nil || r.Index != nil || r.Works != nil) {
			t.Errorf("%s: %d, %d objects, want %d", c.name, r.Code, len(r.Store), c.code)
		}
		// The code of a path is told ahead of one that is taken.
		taken := append(slices.Clone(sides[1]), impl.File{Path: "z", Mode: 1, Id: blobs[0].Id})
		within := append(slices.Clone(sides[2]), impl.File{Path: "z/y", Mode: 1, Id: blobs[0].Id})
		want := c.code
		if want == impl.OK {
			want = impl.ErrTaken
		}
		if r := wantMergedTrees(t, c.name+", and one is taken", store, sides[0], taken, within); r.Code != want || r.Store != nil {
			t.Errorf("%s, and one is taken: %d, want %d", c.name, r.Code, want)
		}
	}
}

// wantTreesCode: MergeTrees answers this code, and nothing beside it.
func wantTreesCode(t *testing.T, name string, store []impl.Object, base []impl.File, ours []impl.File, theirs []impl.File, code int64) {
	t.Helper()
	r := wantMergedTrees(t, name, store, base, ours, theirs)
	if r.Code != code || code != impl.OK && (r.Store != nil || r.Index != nil || r.Works != nil) {
		t.Errorf("%s: %d, want %d", name, r.Code, code)
	}
}

func TestMergeTreesTellsItsCodes(t *testing.T) {
	a := objectOf(1, "a")
	store := []impl.Object{a}
	right, away := []impl.File{{Path: "x", Mode: 1, Id: a.Id}}, []impl.File{{Path: "x", Mode: 1, Id: "b1234"}}
	within := []impl.File{{Path: "x/y", Mode: 1, Id: a.Id}}
	for name, faulty := range faultyFiles() {
		for _, good := range [][]impl.File{nil, right, away} {
			wantTreesCode(t, name+" at the base", store, faulty.files, good, good, faulty.code)
			wantTreesCode(t, name+" at ours", store, good, faulty.files, good, faulty.code)
			wantTreesCode(t, name+" at theirs", store, good, good, faulty.files, faulty.code)
		}
	}
	// Of several the base's is told, then that of ours.
	some := []string{"too many", "mode 0", "one twice", "within, one between"}
	for _, first := range some {
		for _, second := range some {
			one, two := faultyFiles()[first], faultyFiles()[second]
			if one.files == nil || two.files == nil {
				t.Fatalf("no %s or %s", first, second)
			}
			wantTreesCode(t, first+" ahead of "+second, store, one.files, two.files, right, one.code)
			wantTreesCode(t, first+" ahead of "+second, store, one.files, right, two.files, one.code)
			wantTreesCode(t, first+" ahead of "+second, store, right, one.files, two.files, one.code)
			wantTreesCode(t, first+" ahead of "+second, store, one.files, two.files, two.files, one.code)
		}
	}
	for name, faulty := range faultyStores() {
		for _, files := range [][]impl.File{nil, right, away, faultyFiles()["too many"].files, faultyFiles()["mode 0"].files} {
			wantTreesCode(t, name, faulty.store, files, files, files, faulty.code)
		}
		wantTreesCode(t, name, faulty.store, nil, right, within, faulty.code)
	}
	for _, c := range []struct {
		name               string
		base, ours, theirs []impl.File
		code               int64
	}{
		{"nothing", nil, nil, nil, impl.OK},
		{"empty lists", []impl.File{}, []impl.File{}, []impl.File{}, impl.OK},
		{"all there", right, right, right, impl.OK},
		{"not there at the base", away, right, right, impl.ErrNone},
		{"not there at ours", right, away, right, impl.ErrNone},
		{"not there at theirs", right, right, away, impl.ErrNone},
		{"not there at all, and the same", away, away, away, impl.ErrNone},
		{"not there at the base, gone on both sides", away, nil, nil, impl.ErrNone},
		{"not there at one that came", nil, nil, away, impl.ErrNone},
		{"taken", nil, right, within, impl.ErrTaken},
		{"taken, the other way round", nil, within, right, impl.ErrTaken},
		{"not there ahead of taken", away, within, right, impl.ErrNone},
		{"not there ahead of taken, ours", nil, within, away, impl.ErrNone},
	} {
		wantTreesCode(t, c.name, store, c.base, c.ours, c.theirs, c.code)
	}
	// A blob that is not there is told ahead of what a path ahead of it would tell.
	blobs := blobsOf(mergeBase, mergeOurs, mergeTheirs)
	at := func(i int, last impl.File) []impl.File {
		return []impl.File{{Path: "a", Mode: 1, Id: blobs[i].Id}, last}
	}
	full := withOthers(maxObjects, blobs...)
	there, gone := impl.File{Path: "b", Mode: 1, Id: blobs[0].Id}, impl.File{Path: "b", Mode: 1, Id: "b1234"}
	if slices.ContainsFunc(full, func(object impl.Object) bool { return object.Id == gone.Id }) {
		t.Fatal("it is there")
	}
	wantTreesCode(t, "no room", full, at(0, there), at(1, there), at(2, there), impl.ErrMany)
	wantTreesCode(t, "no room, and a blob not there", full, at(0, there), at(1, there), at(2, gone), impl.ErrNone)
	wantTreesCode(t, "no room, and all gone there", full, at(0, there), at(1, there), nil, impl.OK)
	wantTreesCode(t, "no room, and a wrong mode", full, at(0, there), at(1, there), at(2, impl.File{Path: "b", Mode: 3, Id: gone.Id}), impl.ErrRange)
}

func TestWorkText(t *testing.T) {
	works := []impl.Work{{Path: "b", Text: "first"}, {Path: "a", Text: ""}, {Path: "b", Text: "second"}, {Path: "", Text: "of no path"}, {Path: "a", Text: "late"}, {Path: "\x00/", Text: strings.Repeat("x\n", 5000)}}
	for _, c := range []struct {
		works []impl.Work
		path  string
		want  impl.TextResult
	}{
		{works, "b", impl.TextResult{Text: "first"}},
		{works[1:], "b", impl.TextResult{Text: "second"}},
		{works[3:], "b", impl.TextResult{Code: impl.ErrNone}},
		{works, "a", impl.TextResult{}},
		{works[2:], "a", impl.TextResult{Text: "late"}},
		{works, "", impl.TextResult{Text: "of no path"}},
		{works[:3], "", impl.TextResult{Code: impl.ErrNone}},
		{works, "\x00/", impl.TextResult{Text: strings.Repeat("x\n", 5000)}},
		{works, "c", impl.TextResult{Code: impl.ErrNone}},
		{works, "B", impl.TextResult{Code: impl.ErrNone}},
		{works, "b ", impl.TextResult{Code: impl.ErrNone}},
		{works, "first", impl.TextResult{Code: impl.ErrNone}},
		{works, strings.Repeat("b", 100000), impl.TextResult{Code: impl.ErrNone}},
		{nil, "b", impl.TextResult{Code: impl.ErrNone}},
		{nil, "", impl.TextResult{Code: impl.ErrNone}},
		{[]impl.Work{}, "b", impl.TextResult{Code: impl.ErrNone}},
		{make([]impl.Work, 2), "", impl.TextResult{}},
	} {
		if r := impl.WorkText(c.works, c.path); r != c.want {
			t.Errorf("WorkText of %.40q = %.60s, want %.60s", c.path, fmt.Sprintf("%+v", r), fmt.Sprintf("%+v", c.want))
		}
	}
}

// mergeCase: the arguments of the functions of chapter 11.
type mergeCase struct {
	store []impl.Object
	trees [3][]impl.File
	files [3]impl.File
	works []impl.Work
	path  string
}

// anyMerges: arguments with and without faults, that merge, clash, are taken, and have no room.
func anyMerges() []mergeCase {
	file := func(path string, mode int64, text string) impl.File {
		return impl.File{Path: path, Mode: mode, Id: objectOf(1, text).Id}
	}
	store := storeOf(blobsOf(mergeTexts...)...)
	one := [3]impl.File{file("x", 1, mergeBase), file("x", 2, mergeOurs), file("x", 1, mergeTheirs)}
	two := [3]impl.File{file("x", 1, mergeBase), {}, file("x", 1, mergeTheirs)}
	three := [3]impl.File{{}, file("x", 1, mergeOurs), file("x", 2, mergeTheirs)}
	wrong := [3]impl.File{file("x", 1, mergeBase), file("y", 1, mergeBase), {}}
	lists := func(last ...[3]impl.File) [3][]impl.File {
		var trees [3][]impl.File
		for side := range trees {
			for i, files := range last {
				if one := files[side]; one != noFile {
					one.Path = fmt.Sprintf("d%d/%s", i, one.Path)
					trees[side] = append(trees[side], one)
				}
			}
		}
		return trees
	}
	works := []impl.Work{{Path: "b", Text: "text of b"}, {Path: "a", Text: "text of a"}}
	cases := []mergeCase{
		{},
		{store, lists(one), one, works, "a"},
		{store, lists(one, two, three), two, works, "b"},
		{store, lists(three, two, one, one), three, works, "c"},
		{store, lists(three, one, wrong, two), wrong, nil, ""},
		{withOthers(maxObjects, store...), lists(two, three), one, works[1:], "a"},
		{withOthers(maxObjects, store...), lists(two, one), two, works, "text of b"},
		{store[1:], lists(one, two), three, works, "b"},
		{store, [3][]impl.File{nil, {file("a", 1, "")}, {file("a/b", 1, "")}}, [3]impl.File{}, works, "a"},
		{faultyStores()["not rising"].store, lists(one, two), one, works, "a"},
		{store, [3][]impl.File{faultyFiles()["one twice"].files, lists(one)[1], nil}, [3]impl.File{{Mode: 3}}, works, "b"},
	}
	full, blobs := fullTrees([3]string{mergeBase, mergeOurs, mergeTheirs})
	return append(cases, mergeCase{blobs, full, three, works, "b"})
}

// tellTrees: what all functions of chapter 11 answer to these arguments, in words.
func tellTrees(c mergeCase) string {
	return fmt.Sprintf("%#v %#v %d %#v %v", impl.MergePath(c.store, c.files[0], c.files[1], c.files[2]), impl.MergeTrees(c.store, c.trees[0], c.trees[1], c.trees[2]), impl.MergeKind(c.files[0], c.files[1], c.files[2]), impl.WorkText(c.works, c.path), impl.HasBlobs(c.store, c.trees[1]))
}

func TestPromise1MergedTreesHangOnTheArgumentsAlone(t *testing.T) {
	cases := anyMerges()
	tell := func(i int) string {
		c := cases[i%len(cases)]
		c.store, c.works, c.path = slices.Clone(c.store), slices.Clone(c.works), strings.Clone(c.path)
		c.files = cases[i*5%len(cases)].files
		for side, files := range c.trees {
			c.trees[(side+i)%3] = slices.Clone(files)
		}
		return tellTrees(c)
	}
	answers := make([]string, 12*len(cases))
	for i := range answers {
		answers[i] = tell(i)
	}
	// Backwards each call stands behind other ones than before.
	for i := len(answers) - 1; i >= 0; i-- {
		if tell(i) != answers[i] {
			t.Errorf("round %d: another answer at the second call", i)
		}
	}
}

func TestPromise1MergedTreesChangeNoArgument(t *testing.T) {
	for i, c := range anyMerges() {
		// What lies behind a list in its memory is not the function's either.
		store := append(slices.Clone(c.store), impl.Object{Id: "behind", Kind: 7})
		works := append(slices.Clone(c.works), impl.Work{Path: "behind"})
		var trees [3][]impl.File
		for side, files := range c.trees {
			trees[side] = append(slices.Clone(files), impl.File{Path: "behind"})
		}
		given := mergeCase{store: store[:len(store)-1], files: c.files, works: works[:len(works)-1], path: c.path}
		for side, files := range trees {
			given.trees[side] = files[:len(files)-1]
		}
		tellTrees(given)
		if !slices.Equal(store, append(slices.Clone(c.store), impl.Object{Id: "behind", Kind: 7})) || !slices.Equal(works, append(slices.Clone(c.works), impl.Work{Path: "behind"})) {
			t.Errorf("case %d: a store or works were changed, or what lies behind them", i)
		}
		for side, files := range trees {
			if !slices.Equal(files, append(slices.Clone(c.trees[side]), impl.File{Path: "behind"})) {
				t.Errorf("case %d: files were changed, or what lies behind them", i)
			}
		}
	}
}

func TestPromise1MergedTreesAreNewMemory(t *testing.T) {
	answers := map[string]int{}
	for i, c := range anyMerges() {
		given := slices.Concat(textsOfStore(c.store), textsOfFiles(slices.Concat(c.trees[0], c.trees[1], c.trees[2])...), textsOfFiles(c.files[:]...), []string{c.path})
		for _, work := range c.works {
			given = append(given, work.Path, work.Text)
		}
		before := tellTrees(c)
		for name, r := range map[string]impl.TreesResult{"MergePath": impl.MergePath(c.store, c.files[0], c.files[1], c.files[2]), "MergeTrees": impl.MergeTrees(c.store, c.trees[0], c.trees[1], c.trees[2])} {
			texts := append(textsOfStore(r.Store), textsOfIndex(r.Index)...)
			for _, work := range r.Works {
				texts = append(texts, work.Path, work.Text)
			}
			wantNewTexts(t, fmt.Sprintf("case %d, %s", i, name), given, texts)
			if len(r.Store) > 0 && len(r.Index) > 0 {
				answers[fmt.Sprintf("%s, %v", name, len(r.Works) > 0)]++
			}
			clear(r.Store)
			clear(r.Index)
			clear(r.Works)
		}
		text := impl.WorkText(c.works, c.path)
		wantNewTexts(t, "WorkText", given, []string{text.Text})
		if text.Text != "" {
			answers["WorkText"]++
		}
		if tellTrees(c) != before {
			t.Errorf("case %d: an answer shares its lists with an argument, or with another answer", i)
		}
	}
	if len(answers) != 5 {
		t.Errorf("not all answers are looked at: %v", answers)
	}
}
