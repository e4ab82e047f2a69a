package tests

import (
	"fmt"
	"maps"
	"math"
	"math/rand"
	"slices"
	"strings"
	"testing"

	"loop.example/g00172/impl"
)

const maxBases = 4

func TestNumbersOfHistoriesMerged(t *testing.T) {
	if impl.MergeDone != 0 || impl.MergeForward != 1 || impl.MergeAlready != 2 || impl.MaxBases != maxBases {
		t.Error("a number is not the document's")
	}
}

// settleByWords goes over the stages from the last to the first, so that the least one's mode is what is left.
func settleByWords(store []impl.Object, index []impl.Entry, works []impl.Work) impl.BaseResult {
	for _, code := range []int64{storeFaultByWords(store), indexFaultByWords(index)} {
		if code != impl.OK {
			return impl.BaseResult{Code: code}
		}
	}
	files := stageFilesByWords(index, 0).Files
	for _, path := range clashesByWords(index).Lines {
		at := slices.IndexFunc(works, func(work impl.Work) bool { return work.Path == path })
		if at < 0 {
			return impl.BaseResult{Code: impl.ErrNone}
		}
		put := putByWords(store, impl.KindBlob, works[at].Text)
		if put.Code != impl.OK {
			return impl.BaseResult{Code: put.Code}
		}
		store = put.Store
		file := impl.File{Path: path, Id: put.Id}
		for _, stage := range []int64{3, 2, 1} {
			if there, ok := byPaths(stageFilesByWords(index, stage).Files)[path]; ok {
				file.Mode = there.Mode
			}
		}
		files = append(files, file)
	}
	slices.SortFunc(files, func(a impl.File, b impl.File) int { return strings.Compare(a.Path, b.Path) })
	if code := filesFaultByWords(files); code != impl.OK {
		return impl.BaseResult{Code: code}
	}
	return impl.BaseResult{Store: store, Files: files}
}

// filesWithoutFaultByWords: the code of CommitFiles, and then the fault of the files.
func filesWithoutFaultByWords(store []impl.Object, id string) impl.FilesResult {
	read := commitFilesByWords(store, id)
	if read.Code != impl.OK {
		return read
	}
	if code := filesFaultByWords(read.Files); code != impl.OK {
		return impl.FilesResult{Code: code}
	}
	return read
}

func foldByWords(store []impl.Object, bases []string) impl.BaseResult {
	if code := storeFaultByWords(store); code != impl.OK {
		return impl.BaseResult{Code: code}
	}
	if len(bases) > maxBases {
		return impl.BaseResult{Code: impl.ErrMany}
	}
	if len(bases) == 0 {
		return impl.BaseResult{Store: store}
	}
	first := filesWithoutFaultByWords(store, bases[0])
	if first.Code != impl.OK {
		return impl.BaseResult{Code: first.Code}
	}
	made := impl.BaseResult{Store: store, Files: first.Files}
	for _, id := range bases[1:] {
		read := filesWithoutFaultByWords(made.Store, id)
		if read.Code != impl.OK {
			return impl.BaseResult{Code: read.Code}
		}
		merged := mergeTreesByWords(made.Store, nil, made.Files, read.Files)
		if merged.Code != impl.OK {
			return impl.BaseResult{Code: merged.Code}
		}
		made = settleByWords(merged.Store, merged.Index, merged.Works)
		if made.Code != impl.OK {
			return made
		}
	}
	return made
}

// basesInByWords asks the store ahead of the histories.
func basesInByWords(store []impl.Object, a string, b string) impl.LinesResult {
	if code := storeFaultByWords(store); code != impl.OK {
		return impl.LinesResult{Code: code}
	}
	return basesByWords(commitsByWords(store), a, b)
}

func virtualByWords(store []impl.Object, a string, b string) impl.BaseResult {
	bases := basesInByWords(store, a, b)
	if bases.Code != impl.OK {
		return impl.BaseResult{Code: bases.Code}
	}
	return foldByWords(store, bases.Lines)
}

func mergeCommitsByWords(store []impl.Object, ours string, theirs string) impl.CommitsResult {
	bases := basesInByWords(store, ours, theirs)
	if bases.Code != impl.OK {
		return impl.CommitsResult{Code: bases.Code}
	}
	all := commitsByWords(store)
	taken := func(kind int64, id string) impl.CommitsResult {
		read := commitFilesByWords(store, id)
		index := filesIndexByWords(read.Files)
		for _, code := range []int64{read.Code, index.Code} {
			if code != impl.OK {
				return impl.CommitsResult{Code: code}
			}
		}
		return impl.CommitsResult{Kind: kind, Store: store, Index: index.Entries}
	}
	if slices.Contains(gotToByWords(all, ours), theirs) {
		return taken(2, ours)
	}
	if slices.Contains(gotToByWords(all, theirs), ours) {
		return taken(1, theirs)
	}
	base := foldByWords(store, bases.Lines)
	ofOurs, ofTheirs := filesWithoutFaultByWords(store, ours), filesWithoutFaultByWords(store, theirs)
	for _, code := range []int64{base.Code, ofOurs.Code, ofTheirs.Code} {
		if code != impl.OK {
			return impl.CommitsResult{Code: code}
		}
	}
	r := mergeTreesByWords(base.Store, base.Files, ofOurs.Files, ofTheirs.Files)
	return impl.CommitsResult{Code: r.Code, Store: r.Store, Index: r.Index, Works: r.Works}
}

func finishByWords(store []impl.Object, index []impl.Entry, ours string, theirs string, time int64, note string) impl.StoreResult {
	if code := storeFaultByWords(store); code != impl.OK {
		return impl.StoreResult{Code: code}
	}
	files := indexFilesByWords(index)
	if files.Code != impl.OK {
		return impl.StoreResult{Code: files.Code}
	}
	if ours == theirs {
		return impl.StoreResult{Code: impl.ErrForm}
	}
	return addByWords(store, files.Files, []string{ours, theirs}, time, note)
}

func sameBaseResult(a impl.BaseResult, b impl.BaseResult) bool {
	return a.Code == b.Code && slices.Equal(a.Store, b.Store) && slices.Equal(a.Files, b.Files)
}

func sameCommitsResult(a impl.CommitsResult, b impl.CommitsResult) bool {
	return a.Kind == b.Kind && sameTreesResult(treesIn(a), treesIn(b))
}

// treesIn: what an answer has but for its kind.
func treesIn(r impl.CommitsResult) impl.TreesResult {
	return impl.TreesResult{Code: r.Code, Store: r.Store, Index: r.Index, Works: r.Works}
}

// wantBase: the answer is the one that is wanted, has nothing beside a code, and loses no object.
func wantBase(t *testing.T, name string, store []impl.Object, got impl.BaseResult, want impl.BaseResult) impl.BaseResult {
	t.Helper()
	if !sameBaseResult(got, want) {
		t.Errorf("%s: %.3000s, want %.3000s", name, fmt.Sprintf("%+v", got), fmt.Sprintf("%+v", want))
	}
	if got.Code != impl.OK {
		if got.Store != nil || got.Files != nil {
			t.Errorf("%s: something stands beside the code %d", name, got.Code)
		}
		return got
	}
	if code := impl.FilesFault(got.Files); code != impl.OK {
		t.Errorf("%s: the files have the fault %d", name, code)
	}
	wantKept(t, name, store, got.Store)
	return got
}

// wantKept: the store that comes has no fault, and all that there was.
func wantKept(t *testing.T, name string, store []impl.Object, made []impl.Object) {
	t.Helper()
	if code := impl.StoreFault(made); code != impl.OK {
		t.Errorf("%s: the store has the fault %d", name, code)
	}
	if both := impl.MergeStores(made, store); both.Code != impl.OK || !slices.Equal(both.Store, made) {
		t.Errorf("%s: an object is lost", name)
	}
}

func wantClashesSettled(t *testing.T, name string, store []impl.Object, index []impl.Entry, works []impl.Work) impl.BaseResult {
	t.Helper()
	return wantBase(t, name+", SettleClashes", store, impl.SettleClashes(store, index, works), settleByWords(store, index, works))
}

func wantFolded(t *testing.T, name string, store []impl.Object, bases ...string) impl.BaseResult {
	t.Helper()
	return wantBase(t, fmt.Sprintf("%s, FoldBases of %.60q", name, bases), store, impl.FoldBases(store, bases), foldByWords(store, bases))
}

func wantVirtual(t *testing.T, name string, store []impl.Object, a string, b string) impl.BaseResult {
	t.Helper()
	r := wantBase(t, fmt.Sprintf("%s, VirtualFiles of %.20q and %.20q", name, a, b), store, impl.VirtualFiles(store, a, b), virtualByWords(store, a, b))
	if back := impl.VirtualFiles(store, b, a); r.Code == impl.OK && !sameBaseResult(back, r) {
		t.Errorf("%s: VirtualFiles of %s and %s is another one back", name, a, b)
	}
	return r
}

// isWithoutRing: no commit of the histories comes from itself.
func isWithoutRing(store []impl.Object, ids ...string) bool {
	return !slices.ContainsFunc(ids, func(id string) bool { return impl.GenerationOf(store, id).Code != impl.OK })
}

// wantCommitsMerged asks promise 13 of two commits, and holds the answer against the document's words.
func wantCommitsMerged(t *testing.T, name string, store []impl.Object, ours string, theirs string) impl.CommitsResult {
	t.Helper()
	name = fmt.Sprintf("%s, MergeCommits of %.20q and %.20q", name, ours, theirs)
	got, want := impl.MergeCommits(store, ours, theirs), mergeCommitsByWords(store, ours, theirs)
	if !sameCommitsResult(got, want) {
		t.Errorf("%s: %.3000s, want %.3000s", name, fmt.Sprintf("%+v", got), fmt.Sprintf("%+v", want))
	}
	if got.Code != impl.OK {
		if got.Kind != 0 || got.Store != nil || got.Index != nil || got.Works != nil {
			t.Errorf("%s: something stands beside the code %d", name, got.Code)
		}
		return got
	}
	wantKept(t, name, store, got.Store)
	wantTakenAsItIs(t, name, store, ours, theirs, got)
	if isWithoutRing(store, ours, theirs) {
		turned := impl.MergeCommits(store, theirs, ours)
		wantTurned(t, name, treesIn(got), treesIn(turned))
		wantTakenAsItIs(t, name+", turned round", store, theirs, ours, turned)
	}
	if !slices.Equal(workPaths(got.Works), impl.ClashesIn(got.Index).Lines) || impl.IsClean(got) != (len(got.Works) == 0) {
		t.Errorf("%s: the works are %+v, and %q clash", name, got.Works, impl.ClashesIn(got.Index).Lines)
	}
	return got
}

// wantTakenAsItIs: where one comes from the other the later one is taken as it is, and the kind tells which one that is.
func wantTakenAsItIs(t *testing.T, name string, store []impl.Object, ours string, theirs string, r impl.CommitsResult) {
	t.Helper()
	kind, later := int64(impl.MergeDone), ""
	if impl.IsAncestor(store, ours, theirs) {
		kind, later = impl.MergeForward, theirs
	}
	if impl.IsAncestor(store, theirs, ours) {
		kind, later = impl.MergeAlready, ours
	}
	if r.Kind != kind {
		t.Errorf("%s: the kind is %d, want %d", name, r.Kind, kind)
	}
	if later == "" {
		return
	}
	index := impl.FilesIndex(impl.CommitFiles(store, later).Files)
	if !slices.Equal(r.Store, store) || !slices.Equal(r.Index, index.Entries) || r.Works != nil || !impl.IsClean(r) {
		t.Errorf("%s: %s is not taken as it is: %+v", name, later, treesIn(r))
	}
}

// wantFinished asks promise 13 of a merge that is finished.
func wantFinished(t *testing.T, name string, store []impl.Object, index []impl.Entry, ours string, theirs string, time int64, note string) impl.StoreResult {
	t.Helper()
	name += ", FinishMerge"
	got, want := impl.FinishMerge(store, index, ours, theirs, time, note), finishByWords(store, index, ours, theirs, time, note)
	if !sameStoreResult(got, want) {
		t.Errorf("%s = %.3000s, want %.3000s", name, fmt.Sprintf("%+v", got), fmt.Sprintf("%+v", want))
	}
	if got.Code != impl.OK {
		if got.Id != "" || got.Store != nil {
			t.Errorf("%s: something stands beside the code %d", name, got.Code)
		}
		return got
	}
	wantKept(t, name, store, got.Store)
	if r := impl.CommitFiles(got.Store, got.Id); !sameFilesResult(r, impl.IndexFiles(index)) {
		t.Errorf("%s: CommitFiles = %+v, want those of %+v", name, r, index)
	}
	if r := impl.ParentsOf(got.Store, got.Id); !sameLinesResult(r, impl.LinesResult{Lines: []string{ours, theirs}}) {
		t.Errorf("%s: ParentsOf = %+v", name, r)
	}
	read := impl.DecodeCommit(impl.GetObject(got.Store, impl.KindCommit, got.Id).Object.Data)
	if read.Commit.Time != time || read.Commit.Note != note {
		t.Errorf("%s: the commit is %+v", name, read)
	}
	if impl.HistoryOf(got.Store, got.Id).Code != impl.OK {
		return got
	}
	for _, side := range []string{ours, theirs} {
		if !impl.IsAncestor(got.Store, side, got.Id) {
			t.Errorf("%s: it does not come from %s", name, side)
		}
		// What was merged is there already.
		if r := impl.MergeCommits(got.Store, got.Id, side); r.Code != impl.OK || r.Kind != impl.MergeAlready || !slices.Equal(r.Index, index) {
			t.Errorf("%s: merged once more with %s it is %+v", name, side, r)
		}
	}
	return got
}

// told: a history of commits, each told as its letter, a colon and the letters of its parents, and behind a blank its files as treeOfTexts takes them; with their trees and blobs.
func told(commits ...string) []impl.Object {
	var objects []impl.Object
	for i, one := range commits {
		head, tree, _ := strings.Cut(one, " ")
		letter, parents, _ := strings.Cut(head, ":")
		files, blobs := treeOfTexts(tree)
		written := writeByWords(nil, files)
		if written.Code != impl.OK {
			panic(one)
		}
		commit := commitAt(idNamed(letter), impl.Commit{Tree: written.Id, Parents: named(parents), Time: int64(i)})
		objects = slices.Concat(objects, blobs, written.Store, []impl.Object{commit})
	}
	return soundStore(objects...)
}

// soundStore: a store with each of the objects once, no two of which have one name by chance.
func soundStore(objects ...impl.Object) []impl.Object {
	store := storeOnce(objects...)
	if code := storeFaultByWords(store); code != impl.OK {
		panic(fmt.Sprintf("the store has the fault %d", code))
	}
	return store
}

// withTree: a commit of a letter with its parents and this tree, which need not be there.
func withTree(letter string, parents string, tree string) impl.Object {
	return commitAt(idNamed(letter), impl.Commit{Tree: tree, Parents: named(parents)})
}

func withoutKind(store []impl.Object, kind int64) []impl.Object {
	return slices.DeleteFunc(slices.Clone(store), func(object impl.Object) bool { return object.Kind == kind })
}

// withoutBlob: the store without the blob of a text told with bars for line feeds.
func withoutBlob(store []impl.Object, text string) []impl.Object {
	gone := objectOf(impl.KindBlob, barred(text))
	if !slices.Contains(store, gone) {
		panic(text + " is not there")
	}
	return slices.DeleteFunc(slices.Clone(store), func(object impl.Object) bool { return object == gone })
}

// refusing: a blob of other data with the name that a text has.
func refusing(text string) impl.Object {
	other := objectOf(impl.KindBlob, laidAt("c"+objectOf(impl.KindBlob, text).Id[1:], "other than ").Data)
	if other.Id != objectOf(impl.KindBlob, text).Id || other.Data == text {
		panic("no other data")
	}
	return other
}

// clashed: what two texts of one path, that have no base, come to; all three told as withBars tells them.
func clashed(ours string, theirs string) string {
	return "<<<<<<<|" + ours + "^^^^^^^|=======|" + theirs + ">>>>>>>|"
}

// untold: the text that withBars tells so.
func untold(told string) string {
	return strings.NewReplacer("|", "\n", "^", "|").Replace(told)
}

// tellFolded: the files, each with its path, mode, and text (its id, if the store has none), with bars for line feeds.
func tellFolded(r impl.BaseResult) string {
	var words []string
	for _, file := range r.Files {
		blob := getByWords(r.Store, impl.KindBlob, file.Id)
		text := withBars(blob.Object.Data)
		if blob.Code != impl.OK {
			text = file.Id
		}
		words = append(words, fmt.Sprintf("%s %d:%s", file.Path, file.Mode, text))
	}
	return strings.Join(words, ", ")
}

// worksOf: works told as their paths, each with an equals sign and the text behind it.
func worksOf(told string) []impl.Work {
	var works []impl.Work
	for _, word := range strings.Fields(told) {
		path, text, _ := strings.Cut(word, "=")
		works = append(works, impl.Work{Path: path, Text: barred(text)})
	}
	return works
}

func TestSettleClashes(t *testing.T) {
	store := blobsOf("a")
	entry := func(path string, stage int64, mode int64) impl.Entry {
		return impl.Entry{Path: path, Stage: stage, Mode: mode, Id: "b0001"}
	}
	for _, c := range []struct {
		name  string
		index []impl.Entry
		works string
		want  string
		more  int
	}{
		{"nothing", nil, "", "", 0},
		{"an empty list", []impl.Entry{}, "", "", 0},
		{"no clash", staged("a=0 b/c=0"), "", "a 1:b0001, b/c 2:b044a", 0},
		{"no clash, a work of its path", staged("a=0 b/c=0"), "a=x| b/c=y|", "a 1:b0001, b/c 2:b044a", 0},
		{"no clash, a work of another path", staged("a=0"), "b=x|", "a 1:b0001", 0},
		{"all three stages, the first a file", []impl.Entry{entry("a", 1, 1), entry("a", 2, 2), entry("a", 3, 2)}, "a=x|", "a 1:x|", 1},
		{"all three stages, the first to be run", []impl.Entry{entry("a", 1, 2), entry("a", 2, 1), entry("a", 3, 1)}, "a=x|", "a 2:x|", 1},
		{"stages 1 and 2, a file", []impl.Entry{entry("a", 1, 1), entry("a", 2, 2)}, "a=x|", "a 1:x|", 1},
		{"stages 1 and 2, to be run", []impl.Entry{entry("a", 1, 2), entry("a", 2, 1)}, "a=x|", "a 2:x|", 1},
		{"stages 1 and 3, a file", []impl.Entry{entry("a", 1, 1), entry("a", 3, 2)}, "a=x|", "a 1:x|", 1},
		{"stages 1 and 3, to be run", []impl.Entry{entry("a", 1, 2), entry("a", 3, 1)}, "a=x|", "a 2:x|", 1},
		{"stages 2 and 3, a file", []impl.Entry{entry("a", 2, 1), entry("a", 3, 2)}, "a=x|", "a 1:x|", 1},
		{"stages 2 and 3, to be run", []impl.Entry{entry("a", 2, 2), entry("a", 3, 1)}, "a=x|", "a 2:x|", 1},
		{"stage 1 alone", []impl.Entry{entry("a", 1, 2)}, "a=x|", "a 2:x|", 1},
		{"stage 2 alone", []impl.Entry{entry("a", 2, 1)}, "a=x|", "a 1:x|", 1},
		{"stage 3 alone", []impl.Entry{entry("a", 3, 2)}, "a=x|", "a 2:x|", 1},
		{"an empty text", staged("a=2"), "a=", "a 1:", 1},
		{"a binary text", staged("a=2"), "a=\x00", "a 1:\x00", 1},
		{"a text that is there", staged("a=23"), "a=a", "a 1:a", 0},
		{"one text of two", staged("a=23 b=1"), "a=x b=x", "a 1:x, b 1:x", 1},
		{"the first of several works", staged("a=2"), "a=x| a=y| a=z|", "a 1:x|", 1},
		{"works in no order", staged("a=2 b=13 c=23"), "c=z b=y a=x", "a 1:x, b 2:y, c 2:z", 3},
		{"works of other paths among them", staged("a=2 b=0 c=23"), "b=w a/a=v c=z aa=u a=x", "a 1:x, b 2:b044a, c 1:z", 2},
		{"paths that rise by their bytes", staged("a-=0 a-b=2 a/b=0 a/c=13 a0=1 b=0"), "a/c=x a-b=y a0=z", "a- 1:b0001, a-b 2:y, a/b 1:b0893, a/c 2:x, a0 2:z, b 1:b19b7", 3},
		{"what clashes first", staged("a=123 b=0"), "a=x", "a 1:x, b 2:b0cdc", 1},
		{"what clashes last", staged("a=0 b=123"), "b=x", "a 1:b0001, b 2:x", 1},
	} {
		r := wantClashesSettled(t, c.name, store, c.index, worksOf(c.works))
		if told := tellFolded(r); r.Code != impl.OK || told != c.want || len(r.Store) != len(store)+c.more {
			t.Errorf("%s: %d, %q and %d objects, want %q", c.name, r.Code, told, len(r.Store), c.want)
		}
	}
}

func TestSettleClashesTellsItsCodes(t *testing.T) {
	long, lines := strings.Repeat("x", maxText+1), strings.Repeat("\n", maxLines+1)
	none, many, clash, taken := int64(impl.ErrNone), int64(impl.ErrMany), int64(impl.ErrClash), int64(impl.ErrTaken)
	const text = "A\x90"
	other := objectOf(impl.KindBlob, twin(text))
	full, fullBut := withOthers(maxObjects), withOthers(maxObjects-1)
	work := func(path string, text string) impl.Work { return impl.Work{Path: path, Text: text} }
	a, b := work("a", "text of a"), work("b", "text of b")
	two := staged("a=23 b=12")
	for _, c := range []struct {
		name  string
		store []impl.Object
		index []impl.Entry
		works []impl.Work
		code  int64
	}{
		{"both", nil, two, []impl.Work{a, b}, impl.OK},
		{"no works", nil, two, nil, none},
		{"no work of the first", nil, two, []impl.Work{b}, none},
		{"no work of the last", nil, two, []impl.Work{a}, none},
		{"a work of a path with more behind it", nil, staged("a=2"), []impl.Work{work("ab", "x"), work("a/", "x"), work("a ", "x")}, none},
		{"a work of no path", nil, staged("a=2"), []impl.Work{work("", "x")}, none},
		{"as many bytes as may be", nil, staged("a=2"), []impl.Work{work("a", long[1:])}, impl.OK},
		{"too many bytes", nil, staged("a=2"), []impl.Work{work("a", long)}, many},
		{"as many lines as may be", nil, staged("a=2"), []impl.Work{work("a", lines[1:])}, impl.OK},
		{"too many lines", nil, staged("a=2"), []impl.Work{work("a", lines)}, many},
		{"the first of two is too long", nil, staged("a=2"), []impl.Work{work("a", long), a}, many},
		{"the second of two is too long", nil, staged("a=2"), []impl.Work{a, work("a", long)}, impl.OK},
		{"one that is not asked for is too long", nil, staged("a=2 b=0"), []impl.Work{a, work("b", long), work("c", long)}, impl.OK},
		{"other data of its name", []impl.Object{other}, staged("a=2"), []impl.Work{work("a", text)}, clash},
		{"two texts of one name", nil, two, []impl.Work{work("a", text), work("b", twin(text))}, clash},
		{"no room", full, staged("a=2"), []impl.Work{a}, many},
		{"no room, and nothing to be put", full, staged("a=0"), []impl.Work{a}, impl.OK},
		{"no room, there already", withOthers(maxObjects, objectOf(1, a.Text)), staged("a=2"), []impl.Work{a}, impl.OK},
		{"no room, other data of its name", withOthers(maxObjects, other), staged("a=2"), []impl.Work{work("a", text)}, clash},
		{"room for one of two", fullBut, two, []impl.Work{a, b}, many},
		{"room for one, two of one text", fullBut, two, []impl.Work{a, work("b", a.Text)}, impl.OK},

		// Path by path all is asked.
		{"too long ahead of none", nil, two, []impl.Work{work("a", long)}, many},
		{"none ahead of too long", nil, two, []impl.Work{work("b", long)}, none},
		{"no room ahead of none", full, two, []impl.Work{a}, many},
		{"none ahead of no room", full, two, []impl.Work{b}, none},
		{"other data ahead of none", []impl.Object{other}, two, []impl.Work{work("a", text)}, clash},
		{"other data ahead of too long", []impl.Object{other}, two, []impl.Work{work("a", text), work("b", long)}, clash},
		{"too long ahead of other data", []impl.Object{other}, two, []impl.Work{work("b", text), work("a", long)}, many},
		{"no room ahead of other data", withOthers(maxObjects, other), two, []impl.Work{a, work("b", text)}, many},
		{"other data ahead of no room", withOthers(maxObjects, other), two, []impl.Work{work("a", text), b}, clash},

		// Behind all paths the files are asked.
		{"a clash within what is settled", nil, staged("a=0 a/b=2"), []impl.Work{work("a/b", "x")}, taken},
		{"what is settled within a clash", nil, staged("a=2 a/b=0"), []impl.Work{a}, taken},
		{"a clash within a clash", nil, staged("a=1 a/b=2"), []impl.Work{a, work("a/b", "x")}, taken},
		{"within, others between", nil, staged("a=0 a-=3 a.=0 a/b=0"), []impl.Work{work("a-", "x")}, taken},
		{"within, nothing clashes", nil, staged("a=0 a/b=0"), nil, taken},
		{"none ahead of taken", nil, staged("a=0 a/b=2"), nil, none},
		{"none behind taken", nil, staged("a=0 a/b=0 b=2"), nil, none},
		{"other data ahead of taken", []impl.Object{other}, staged("a=0 a/b=0 b=2"), []impl.Work{work("b", text)}, clash},
		{"as many files as may be", nil, fullIndex(maxFiles, "0"), nil, impl.OK},
		{"too many files", nil, fullIndex(maxFiles+1, "0"), nil, many},
		{"as many files as may be, the last clashes", nil, append(fullIndex(maxFiles-1, "0"), staged("z=123")...), []impl.Work{work("z", "x")}, impl.OK},
		{"too many files, the last clashes", nil, append(fullIndex(maxFiles, "0"), staged("z=123")...), []impl.Work{work("z", "x")}, many},
		{"none ahead of too many files", nil, append(fullIndex(maxFiles, "0"), staged("z=123")...), nil, none},
		{"other data ahead of too many files", []impl.Object{other}, append(fullIndex(maxFiles, "0"), staged("z=1")...), []impl.Work{work("z", text)}, clash},
		{"too many files ahead of taken", nil, append(staged("a=0 a/b=0"), fullIndex(maxFiles, "0")...), nil, many},
	} {
		if r := wantClashesSettled(t, c.name, c.store, c.index, c.works); r.Code != c.code {
			t.Errorf("%s: %d, want %d", c.name, r.Code, c.code)
		}
	}
	for name, index := range faultyIndexes() {
		for _, store := range [][]impl.Object{nil, full} {
			for _, works := range [][]impl.Work{nil, {a, b}, {work("a", long)}} {
				if r := wantClashesSettled(t, fmt.Sprintf("%.60s", name), store, index.index, works); r.Code != index.code {
					t.Errorf("%.60s: %d, want %d", name, r.Code, index.code)
				}
			}
		}
	}
	for name, faulty := range faultyStores() {
		for _, index := range [][]impl.Entry{nil, two, faultyIndexes()["too many"].index, faultyIndexes()["mode 3"].index, faultyIndexes()["one twice"].index} {
			if r := wantClashesSettled(t, name, faulty.store, index, []impl.Work{a, b}); r.Code != faulty.code {
				t.Errorf("%s: %d, want %d", name, r.Code, faulty.code)
			}
		}
	}
}

func TestSettleClashesOfRandomIndexes(t *testing.T) {
	random := rand.New(rand.NewSource(30))
	texts := []string{"", "x\n", "y\n", "z\n", "\x00", strings.Repeat("\n", maxLines)}
	seldom := []string{"A\x90", twin("A\x90"), strings.Repeat("x", maxText+1)}
	codes, most := map[int64]int{}, 0
	for round := range 600 {
		index := randomIndex(random, []int{3, 12, 90}[round%3], partingNames[:3+round%8])
		if round%5 == 4 {
			index = fullIndex(random.Intn(90), []string{"0", "2", "13", "123"}[random.Intn(4)])
		}
		var works []impl.Work
		for _, entry := range index {
			// What ends it is seldom, so that the paths behind are met too.
			text := texts[random.Intn(len(texts))]
			if random.Intn(15) == 0 {
				text = seldom[random.Intn(len(seldom))]
			}
			if random.Intn(20) > 0 {
				works = append(works, impl.Work{Path: entry.Path, Text: text})
			}
		}
		random.Shuffle(len(works), func(i int, j int) { works[i], works[j] = works[j], works[i] })
		store := withOthers([]int{0, 20, maxObjects - 2, maxObjects}[round/3%4])
		r := wantClashesSettled(t, fmt.Sprintf("round %d", round), store, index, works)
		codes[r.Code]++
		most = max(most, len(r.Files))
	}
	for _, code := range []int64{impl.OK, impl.ErrNone, impl.ErrMany, impl.ErrClash, impl.ErrTaken} {
		if codes[code] < 5 {
			t.Errorf("the indexes do not reach all: %v", codes)
		}
	}
	if most < 20 {
		t.Errorf("there are %d files at most", most)
	}
}

func TestFoldBases(t *testing.T) {
	for _, c := range []struct {
		name    string
		commits []string
		bases   string
		want    string
		more    int
	}{
		{"none", []string{"a x=1|"}, "", "", 0},
		{"one", []string{"a x=1| y*=2|", "b x=2|"}, "a", "x 1:1|, y 2:2|", 0},
		{"one without files", []string{"a"}, "a", "", 0},
		{"two of other paths", []string{"a x=1|", "b y*=2|"}, "ab", "x 1:1|, y 2:2|", 0},
		{"two of other paths, turned round", []string{"a x=1|", "b y*=2|"}, "ba", "x 1:1|, y 2:2|", 0},
		{"two, one without files", []string{"a", "b x=1|"}, "ab", "x 1:1|", 0},
		{"two of one tree", []string{"a x=1|", "b x=1|"}, "ab", "x 1:1|", 0},
		{"one told twice", []string{"a x=1| y*=2|"}, "aa", "x 1:1|, y 2:2|", 0},
		{"one told four times", []string{"a x=1| y*=2|"}, "aaaa", "x 1:1|, y 2:2|", 0},
		{"two texts", []string{"a x=1|", "b x=2|"}, "ab", "x 1:" + clashed("1|", "2|"), 1},
		{"two texts, turned round", []string{"a x=1|", "b x=2|"}, "ba", "x 1:" + clashed("2|", "1|"), 1},
		{"two texts and two modes: the first one's", []string{"a x*=1|", "b x=2|"}, "ab", "x 2:" + clashed("1|", "2|"), 1},
		{"two texts and two modes, turned round", []string{"a x*=1|", "b x=2|"}, "ba", "x 1:" + clashed("2|", "1|"), 1},
		{"one text and two modes", []string{"a x*=1|", "b x=1|"}, "ab", "x 2:1|", 0},
		{"one text and two modes, turned round", []string{"a x*=1|", "b x=1|"}, "ba", "x 1:1|", 0},
		{"one is empty", []string{"a x=", "b x=2|"}, "ab", "x 1:2|", 0},
		{"one is empty, two modes", []string{"a x*=", "b x=2|"}, "ab", "x 2:2|", 0},
		{"one is binary", []string{"a x=\x00", "b x=2|"}, "ab", "x 1:\x00", 0},
		{"one is binary, turned round", []string{"a x=\x00", "b x=2|"}, "ba", "x 1:2|", 0},
		{"what they have in common is no base", []string{"o x=1|2|3|", "a:o x=0|2|3|", "b:o x=1|2|4|"}, "ab", "x 1:" + clashed("0|2|3|", "1|2|4|"), 1},
		{"what is gone in one is there", []string{"o x=1| y=2|", "a:o x=1|", "b:o x=1| y=2|"}, "ab", "x 1:1|, y 1:2|", 0},
		{"some clash, and some do not", []string{"a p=1| q=1| r*=1|", "b o=1| q=2| r=1|"}, "ab", "o 1:1|, p 1:1|, q 1:" + clashed("1|", "2|") + ", r 2:1|", 1},
		{"a base and what comes from it", []string{"a x=1|", "b:a x=1|2|"}, "ab", "x 1:" + clashed("1|", "1|2|"), 1},
		{"three of other paths", []string{"a x=1|", "b y=2|", "c z=3|"}, "cab", "x 1:1|, y 1:2|, z 1:3|", 0},
		{"three texts", []string{"a x=1|", "b x=2|", "c x=3|"}, "abc", "x 1:" + clashed(clashed("1|", "2|"), "3|"), 2},
		{"three, the last the first", []string{"a x=1|", "b x=2|", "c x=1|"}, "abc", "x 1:" + clashed(clashed("1|", "2|"), "1|"), 2},
		{"three, the first two one", []string{"a x=1|", "b x=1|", "c x=2|"}, "abc", "x 1:" + clashed("1|", "2|"), 1},
		{"four of other paths", []string{"a w=1|", "b x=2|", "c y=3|", "d z=4|"}, "dcba", "w 1:1|, x 1:2|, y 1:3|, z 1:4|", 0},
		{"four, three of them with one path", []string{"a x=1|", "b y=2|", "c x=3|", "d x=3|"}, "abcd", "x 1:" + clashed(clashed("1|", "3|"), "3|") + ", y 1:2|", 2},
	} {
		store := told(c.commits...)
		r := wantFolded(t, c.name, store, named(c.bases)...)
		if told := tellFolded(r); r.Code != impl.OK || told != c.want || len(r.Store) != len(store)+c.more {
			t.Errorf("%s: %d, %q and %d objects more, want %q", c.name, r.Code, told, len(r.Store)-len(store), c.want)
		}
	}
}

// manyFiles: so many files of a directory, told as treeOfTexts takes them.
func manyFiles(dir string, count int) string {
	var told []string
	for i := range count {
		told = append(told, fmt.Sprintf("%s/%02d=1|", dir, i))
	}
	return strings.Join(told, " ")
}

// overTree: a tree of more files than may be read.
func overTree() impl.Object {
	return treeOf(entriesOf(maxFiles+1, 4)...)
}

// mixedBases: commits whose files are read, or not, merge, clash, are taken, are too many, or whose blobs are not there.
func mixedBases() []impl.Object {
	bad, over := objectOf(impl.KindTree, "bad"), overTree()
	away := treeOf(impl.TreeEntry{Name: "w", Mode: 1, Id: "b1234"})
	store := told("a x=1|", "b y*=2|", "c x*=3|", "d x/y=1|", "e "+manyFiles("p", 31), "f "+manyFiles("q", 30), "g")
	return soundStore(slices.Concat(store, []impl.Object{bad, over, away, withTree("n", "", "t1234"), withTree("t", "", bad.Id), withTree("m", "", over.Id), withTree("w", "", away.Id), unreadAt(idNamed("u"))})...)
}

func TestFoldBasesTellsItsCodes(t *testing.T) {
	store := mixedBases()
	none, many, text, clash, taken := int64(impl.ErrNone), int64(impl.ErrMany), int64(impl.ErrText), int64(impl.ErrClash), int64(impl.ErrTaken)
	room := func(count int, more ...impl.Object) []impl.Object {
		return withOthers(maxObjects-count, append(slices.Clone(store), more...)...)
	}
	clash13, clash31 := untold(clashed("1|", "3|")), untold(clashed("3|", "1|"))
	for _, c := range []struct {
		name  string
		store []impl.Object
		bases string
		code  int64
	}{
		{"one that is not there", store, "z", none},
		{"one that cannot be read", store, "u", text},
		{"one whose tree is not there", store, "n", none},
		{"one whose tree cannot be read", store, "t", text},
		{"one of too many files", store, "m", many},
		{"one whose blobs are not there", store, "w", impl.OK},
		{"two, the first is not there", store, "za", none},
		{"two, the second is not there", store, "az", none},
		{"two, the second cannot be read", store, "au", text},
		{"two, the second one's tree is not there", store, "an", none},
		{"two, the second one's tree cannot be read", store, "at", text},
		{"two, the second of too many files", store, "am", many},
		{"two, the first one's blobs are not there", store, "wa", none},
		{"two, the second one's blobs are not there", store, "aw", none},
		{"two, the first one's blobs are not there, nothing else", store, "wg", none},
		{"one told twice, its blobs are not there", store, "ww", none},
		{"four, the last one's blobs are not there", store, "abgw", none},
		{"two, one within the other", store, "ad", taken},
		{"two, the other within the one", store, "da", taken},
		{"two of too many files together", store, "ef", many},
		{"two of too many files together, turned round", store, "fe", many},
		{"as many files as may be", store, "fag", impl.OK},
		{"as many files as may be, and one with them again", store, "fafa", impl.OK},

		// Base by base: what is wrong with one is told ahead of what is wrong with the next.
		{"a tree that cannot be read ahead of one that is not there", store, "atz", text},
		{"one that is not there ahead of a tree that cannot be read", store, "azt", none},
		{"one within ahead of one that is not there", store, "adz", taken},
		{"one that is not there ahead of one within", store, "azd", none},
		{"too many files together ahead of one that cannot be read", store, "efu", many},
		{"blobs that are not there ahead of a tree that cannot be read", store, "awt", none},
		{"a tree that cannot be read ahead of blobs that are not there", store, "wt", text},
		{"files that cannot be read ahead of one within, of three", store, "gtad", text},

		{"as many as may be", store, "abcg", impl.OK},
		{"one too many", store, "abcga", many},
		{"one too many, all one", store, "aaaaa", many},
		{"one too many, all wrong", store, "ututu", many},
		{"one too many, the first is not there", store, "zabcg", many},
		{"as many as may be, the first is not there", store, "zabc", none},

		{"room for what clashes", room(1), "ac", impl.OK},
		{"no room for what clashes", room(0), "ac", many},
		{"no room, nothing clashes", room(0), "abgb", impl.OK},
		{"no room ahead of a tree that cannot be read", room(0), "act", many},
		{"a tree that cannot be read ahead of no room", room(0), "atc", text},
		{"room for one of two", room(1), "aca", many},
		{"room for two", room(2), "aca", impl.OK},
		{"no room, it is there already", room(0, objectOf(1, clash13)), "ac", impl.OK},
		{"no room, it is there already, turned round", room(0, objectOf(1, clash13)), "ca", many},
		{"other data of its name", room(9, refusing(clash13)), "ac", clash},
		{"other data of its name, turned round", room(9, refusing(clash13)), "ca", impl.OK},
		{"other data of its name, no room", room(0, refusing(clash31)), "ca", clash},
		{"other data of its name ahead of one that is not there", room(9, refusing(clash13)), "acz", clash},
	} {
		if r := wantFolded(t, c.name, c.store, named(c.bases)...); r.Code != c.code {
			t.Errorf("%s: %d, want %d", c.name, r.Code, c.code)
		}
	}
	for _, id := range slices.Concat(wrongIds, []string{"b03f6", "t0007", store[0].Id}) {
		for _, bases := range [][]string{{id}, {idNamed("a"), id}, {id, idNamed("t")}} {
			if r := wantFolded(t, "a wrong id", store, bases...); r.Code != none {
				t.Errorf("%.60q: %d", bases, r.Code)
			}
		}
	}
	for name, faulty := range faultyStores() {
		for _, bases := range [][]string{nil, {}, {idNamed("a")}, {""}, slices.Repeat(named("a"), 5), make([]string, 1000)} {
			if r := wantFolded(t, name, faulty.store, bases...); r.Code != faulty.code {
				t.Errorf("%s: %d, want %d", name, r.Code, faulty.code)
			}
		}
	}
	if r := wantFolded(t, "far too many", nil, make([]string, 100000)...); r.Code != many {
		t.Errorf("far too many: %d", r.Code)
	}
}

func TestFoldBasesOfEveryFew(t *testing.T) {
	stores := map[string][]impl.Object{"room": mixedBases(), "room for one": withOthers(maxObjects-1, mixedBases()...), "no blobs": withoutKind(mixedBases(), impl.KindBlob)}
	codes := map[int64]int{}
	lists := listsOver(named("abcdefgntmwuz"), 3)
	for name, store := range stores {
		for i, bases := range lists {
			// Of so many some are enough, and fewer where the store is full.
			if len(bases) == 3 && i%3 != 0 || len(store) > 150 && i%7 != 0 {
				continue
			}
			codes[wantFolded(t, name, store, bases...).Code]++
		}
	}
	for _, code := range []int64{impl.OK, impl.ErrNone, impl.ErrMany, impl.ErrText, impl.ErrTaken} {
		if codes[code] < 10 {
			t.Errorf("not all codes: %v", codes)
		}
	}
}

// crossing: a history of as many roots as letters are told, and two commits, y and z, that have them all in common and no other.
func crossing(roots map[string]string, y string, z string) []impl.Object {
	letters := slices.Sorted(maps.Keys(roots))
	var commits []string
	for _, letter := range letters {
		commits = append(commits, letter+" "+roots[letter])
	}
	// Three parents are as many as may be, so that a commit between has the first ones.
	head := strings.Join(letters, "")
	first, rest := head[:min(len(head), 3)], head[min(len(head), 3):]
	return told(append(commits, "r:"+first, "s:"+first, "y:r"+rest+" "+y, "z:s"+rest+" "+z)...)
}

func TestVirtualFiles(t *testing.T) {
	for _, c := range []struct {
		name    string
		commits []string
		a, b    string
		code    int64
		want    string
	}{
		{"nothing in common", []string{"a x=1|", "b x=2|"}, "a", "b", impl.OK, ""},
		{"the same", []string{"a x=1|", "b:a x=2|"}, "b", "b", impl.OK, "x 1:2|"},
		{"one is the parent", []string{"a x=1|", "b:a x=2|"}, "a", "b", impl.OK, "x 1:1|"},
		{"a fork", []string{"a x=1|", "b:a x=2|", "c:a x=3|"}, "b", "c", impl.OK, "x 1:1|"},
		{"a fork behind a row", []string{"a x=1|", "b:a x*=2|", "c:b x=3|", "d:b x=4|", "e:d x=5|"}, "c", "e", impl.OK, "x 2:2|"},
		{"two that cross, and do not clash", []string{"a x=1|", "b y=2|", "c:ab", "d:ba"}, "c", "d", impl.OK, "x 1:1|, y 1:2|"},
		{"two that cross, and clash", []string{"o x=1|", "a:o x=2|", "b:o x=3|", "c:ab x=4|", "d:ab x=5|"}, "c", "d", impl.OK, "x 1:" + clashed("2|", "3|")},
		{"two that cross, by their ids and not by the parents' order", []string{"a x=2|", "b x=3|", "c:ba x=4|", "d:ba x=5|"}, "d", "c", impl.OK, "x 1:" + clashed("2|", "3|")},
		{"two that cross twice", []string{"a x=1|", "b x=2|", "c:ab x=3|", "d:ab x=4|", "e:cd x=5|", "f:cd x=6|"}, "e", "f", impl.OK, "x 1:" + clashed("3|", "4|")},
		{"one within the other", []string{"a x=1|", "b x/y=2|", "c:ab", "d:ab"}, "c", "d", impl.ErrTaken, ""},
		{"in each other's history", []string{"a:b x=1|", "b:a x=2|"}, "a", "b", impl.OK, ""},
		{"a ring in common", []string{"a:b x=1|", "b:a x=2|", "c:a x=3|", "d:b x=4|"}, "c", "d", impl.OK, ""},
		{"one is not there", []string{"a x=1|"}, "a", "b", impl.ErrNone, ""},
		{"the other is not there", []string{"a x=1|"}, "b", "a", impl.ErrNone, ""},
		{"one far behind is not there", []string{"b:a x=1|", "c:b x=1|"}, "c", "c", impl.ErrNone, ""},
	} {
		store := told(c.commits...)
		r := wantVirtual(t, c.name, store, idNamed(c.a), idNamed(c.b))
		if told := tellFolded(r); r.Code != c.code || told != c.want {
			t.Errorf("%s: %d, %q, want %d, %q", c.name, r.Code, told, c.code, c.want)
		}
	}
	roots := map[string]string{"a": "w=1|", "b": "x=2|", "c": "y=3|", "d": "z=4|"}
	if r := wantVirtual(t, "four bases", crossing(roots, "x=1|", "x=3|"), idNamed("y"), idNamed("z")); tellFolded(r) != "w 1:1|, x 1:2|, y 1:3|, z 1:4|" {
		t.Errorf("four bases: %d, %q", r.Code, tellFolded(r))
	}
	roots["e"] = "v=5|"
	if r := wantVirtual(t, "five bases", crossing(roots, "x=1|", "x=3|"), idNamed("y"), idNamed("z")); r.Code != impl.ErrMany {
		t.Errorf("five bases: %d", r.Code)
	}
}

func TestBlobsThatBasesHaveNot(t *testing.T) {
	fork := told("a x=1|", "b:a x=2|", "c:a x=3|")
	cross := told("a x=1|", "b y=2|", "c:ab z=3|", "d:ab z=4|")
	for _, c := range []struct {
		name  string
		store []impl.Object
		a, b  string
		code  int64
	}{
		{"one base", withoutKind(fork, impl.KindBlob), "b", "c", impl.OK},
		{"one base, one blob", withoutBlob(fork, "1|"), "b", "c", impl.OK},
		{"one is the parent", withoutKind(fork, impl.KindBlob), "a", "c", impl.OK},
		{"the same", withoutKind(cross, impl.KindBlob), "d", "d", impl.OK},
		{"two bases", withoutKind(cross, impl.KindBlob), "c", "d", impl.ErrNone},
		{"two bases, a blob of the first", withoutBlob(cross, "1|"), "c", "d", impl.ErrNone},
		{"two bases, a blob of the second", withoutBlob(cross, "2|"), "c", "d", impl.ErrNone},
		{"two bases, a blob of one that they are the bases of", withoutBlob(cross, "3|"), "c", "d", impl.OK},
		{"no trees", withoutKind(fork, impl.KindTree), "b", "c", impl.ErrNone},
	} {
		if r := wantVirtual(t, c.name, c.store, idNamed(c.a), idNamed(c.b)); r.Code != c.code || c.code == impl.OK && !slices.Equal(r.Store, c.store) {
			t.Errorf("%s: %+v, want %d", c.name, r, c.code)
		}
	}
}

func TestPromise13KnownMerges(t *testing.T) {
	done, forward, already := int64(impl.MergeDone), int64(impl.MergeForward), int64(impl.MergeAlready)
	cross := clashed("2|", "3|")
	for _, c := range []struct {
		name         string
		commits      []string
		ours, theirs string
		kind         int64
		want         string
		more         int
	}{
		{"the same", []string{"a x=1|"}, "a", "a", already, "x 0 1:1|", 0},
		{"the same, with parents", []string{"a x=1|", "b:a x*=2| y=3|"}, "b", "b", already, "x 0 2:2|, y 0 1:3|", 0},
		{"theirs is the parent", []string{"a x=1|", "b:a x=2|"}, "b", "a", already, "x 0 1:2|", 0},
		{"theirs is the second parent", []string{"a x=1|", "b x=2|", "c:ab x=3|"}, "c", "b", already, "x 0 1:3|", 0},
		{"theirs is far behind", []string{"a x=1|", "b:a x=2|", "c:b x=3|", "d:c"}, "d", "a", already, "", 0},
		{"ours is the parent", []string{"a x=1|", "b:a x=2|"}, "a", "b", forward, "x 0 1:2|", 0},
		{"ours is the third parent", []string{"a x=1|", "b x=2|", "c x=3|", "d:abc y=4|"}, "c", "d", forward, "y 0 1:4|", 0},
		{"ours is far behind", []string{"a x=1|", "b:a x=2|", "c:b x=3|", "d:c x*=1|"}, "a", "d", forward, "x 0 2:1|", 0},

		{"no base, other paths", []string{"a x=1|", "b y*=2|"}, "a", "b", done, "x 0 1:1|, y 0 2:2|", 0},
		{"no base, one tree", []string{"a x=1|", "b x=1|"}, "a", "b", done, "x 0 1:1|", 0},
		{"no base, two texts", []string{"a x=1|", "b x=2|"}, "a", "b", done, "x 2 1:1|, x 3 1:2|, x=" + clashed("1|", "2|"), 0},
		{"no base, two modes", []string{"a x=1|", "b x*=1|"}, "a", "b", done, "x 2 1:1|, x 3 2:1|, x=1|", 0},
		{"no base, no files", []string{"a", "b"}, "a", "b", done, "", 0},

		{"one base, other paths", []string{"o x=1| y=1|", "a:o x=2| y=1|", "b:o x=1| y*=1| z=3|"}, "a", "b", done, "x 0 1:2|, y 0 2:1|, z 0 1:3|", 0},
		{"one base, texts that merge", []string{"o x=1|2|3|", "a:o x=0|2|3|", "b:o x*=1|2|4|"}, "a", "b", done, "x 0 2:0|2|4|", 1},
		{"one base, texts that clash", []string{"o x=1|", "a:o x=2|", "b:o x=3|"}, "a", "b", done, "x 1 1:1|, x 2 1:2|, x 3 1:3|, x=<<<<<<<|2|^^^^^^^|1|=======|3|>>>>>>>|", 0},
		{"one base, gone here, other there", []string{"o x=1|", "a:o", "b:o x=3|"}, "a", "b", done, "x 1 1:1|, x 3 1:3|, x=3|", 0},
		{"one base, gone on both sides", []string{"o x=1| y=1|", "a:o y=1|", "b:o y=2|"}, "a", "b", done, "y 0 1:2|", 0},
		{"one base, one side as it was", []string{"o x=1|", "a:o x=1|", "b:o x=3|"}, "a", "b", done, "x 0 1:3|", 0},
		{"one base behind rows", []string{"o x=1|2|3|", "p:o x=9|", "a:p x=0|2|3|", "q:o x=8|", "b:q x=1|2|4|"}, "a", "b", done, "x 0 1:0|2|4|", 1},
		{"the nearest base", []string{"n x=5|2|6|", "o:n x=1|2|3|", "a:o x=0|2|3|", "b:o x=1|2|4|"}, "a", "b", done, "x 0 1:0|2|4|", 1},

		{"two bases that do not clash", []string{"o x=1|", "p y=1|", "a:op x=2| y=1|", "b:op x=1| y=3|"}, "a", "b", done, "x 0 1:2|, y 0 1:3|", 0},
		{"two bases, what one has is gone on one side", []string{"o x=1|", "p y=1|", "a:op x=1|", "b:op x=1| y=1|"}, "a", "b", done, "x 0 1:1|", 0},
		{"two bases that clash, settled alike", []string{"o x=2|", "p x=3|", "a:op x=4|", "b:po x=4|"}, "a", "b", done, "x 0 1:4|", 1},
		{"two bases that clash, each taken on one side", []string{"o x=2|", "p x=3|", "a:op x=2|", "b:op x=3|"}, "a", "b", done, "x 1 1:" + cross + ", x 2 1:2|, x 3 1:3|, x=<<<<<<<|2|^^^^^^^|" + cross + "=======|3|>>>>>>>|", 1},
		{"two bases that clash, gone on one side", []string{"o x=2|", "p x=3|", "a:op", "b:op x=3|"}, "a", "b", done, "x 1 1:" + cross + ", x 3 1:3|, x=3|", 1},
		{"two bases of two modes: the first one's is the base's", []string{"o x*=1|", "p x=1|", "a:op x*=1|", "b:op x=1|"}, "a", "b", done, "x 0 1:1|", 0},
		{"two bases of two modes and texts", []string{"o x=2|", "p x*=3|", "a:op x=4|", "b:op x*=4|"}, "a", "b", done, "x 0 2:4|", 1},
		{"three bases", []string{"o x=1|", "p y=1|", "q z=1|", "a:opq x=1| y=2| z=1|", "b:qpo x=3| y=1| z*=1|"}, "a", "b", done, "x 0 1:3|, y 0 1:2|, z 0 2:1|", 0},
		{"merges across one another behind a base", []string{"o x=1|2|3|", "c:o x=9|2|3|", "d:o x=1|2|8|", "e:cd x=9|2|8|", "a:e x=0|2|8|", "b:e x=9|2|4|"}, "a", "b", done, "x 0 1:0|2|4|", 1},
	} {
		store := told(c.commits...)
		r := wantCommitsMerged(t, c.name, store, idNamed(c.ours), idNamed(c.theirs))
		if told := tellMerged(treesIn(r)); r.Code != impl.OK || r.Kind != c.kind || told != c.want || len(r.Store) != len(store)+c.more {
			t.Errorf("%s: %d, kind %d, %q and %d objects more, want kind %d, %q", c.name, r.Code, r.Kind, told, len(r.Store)-len(store), c.kind, c.want)
		}
	}
}

// wantMergeCode: MergeCommits answers this code.
func wantMergeCode(t *testing.T, name string, store []impl.Object, ours string, theirs string, code int64) {
	t.Helper()
	if r := wantCommitsMerged(t, name, store, ours, theirs); r.Code != code {
		t.Errorf("%s: %d, want %d", name, r.Code, code)
	}
}

func TestMergeCommitsTellsTheCodesOfHistories(t *testing.T) {
	store := soundStore(slices.Concat(rowOf(maxHistory+1), shaped("a c! d:c e:q f:a"), []impl.Object{objectOf(impl.KindTree, "")})...)
	ids := map[string]int64{idNumbered(maxHistory): impl.ErrMany, idNamed("d"): impl.ErrText, idNamed("c"): impl.ErrText, idNamed("e"): impl.ErrNone, idNamed("x"): impl.ErrNone, "": impl.ErrNone, "b03f6": impl.ErrNone, "t0007": impl.ErrNone, idNamed("a"): impl.OK, idNumbered(0): impl.OK}
	for ours, codeOurs := range ids {
		for theirs, codeTheirs := range ids {
			want := codeOurs
			if want == impl.OK {
				want = codeTheirs
			}
			wantMergeCode(t, "histories", store, ours, theirs, want)
			if r := wantVirtual(t, "histories", store, ours, theirs); r.Code != want {
				t.Errorf("VirtualFiles of %s and %s: %d, want %d", ours, theirs, r.Code, want)
			}
		}
	}
	for _, id := range wrongIds {
		wantMergeCode(t, "a wrong id", store, id, idNamed("a"), impl.ErrNone)
		wantMergeCode(t, "a wrong id", store, idNamed("a"), id, impl.ErrNone)
		wantMergeCode(t, "a wrong id", store, id, id, impl.ErrNone)
	}
	// Trees are asked behind the histories: in this store no other one is.
	bare := withoutKind(store, impl.KindTree)
	wantMergeCode(t, "no trees", bare, idNamed("a"), idNamed("d"), impl.ErrText)
	wantMergeCode(t, "no trees", bare, idNumbered(maxHistory), idNamed("a"), impl.ErrMany)
	wantMergeCode(t, "no trees", bare, idNamed("a"), idNamed("a"), impl.ErrNone)
	wantMergeCode(t, "a history as long as may be", store, idNumbered(maxHistory-1), idNumbered(0), impl.OK)
	for name, faulty := range faultyStores() {
		for _, id := range []string{"", idNamed("a"), faulty.store[0].Id} {
			wantMergeCode(t, name, faulty.store, id, idNamed("b"), faulty.code)
			wantMergeCode(t, name, faulty.store, id, id, faulty.code)
			if r := wantVirtual(t, name, faulty.store, id, id); r.Code != faulty.code {
				t.Errorf("%s: VirtualFiles has %d, want %d", name, r.Code, faulty.code)
			}
		}
	}
}

// treesOfCodes: ids of trees, and the code of reading their files, and the trees that are there.
func treesOfCodes() (map[string]int64, []impl.Object) {
	good, bad, over := treeOf(impl.TreeEntry{Name: "x", Mode: 1, Id: objectOf(1, "1\n").Id}), objectOf(impl.KindTree, "bad"), overTree()
	deep := nested(good, "d", "c", "b", "a")
	codes := map[string]int64{good.Id: impl.OK, "t1234": impl.ErrNone, bad.Id: impl.ErrText, over.Id: impl.ErrMany, wholeOf(deep): impl.ErrMany}
	return codes, soundStore(slices.Concat(deep, []impl.Object{good, bad, over, objectOf(1, "1\n"), objectOf(impl.KindTree, "")})...)
}

func TestMergeCommitsTellsTheCodesOfTrees(t *testing.T) {
	codes, trees := treesOfCodes()
	first := func(list ...int64) int64 {
		for _, code := range list {
			if code != impl.OK {
				return code
			}
		}
		return impl.OK
	}
	for base, ofBase := range codes {
		for ours, ofOurs := range codes {
			for theirs, ofTheirs := range codes {
				fork := soundStore(append(slices.Clone(trees), withTree("o", "", base), withTree("a", "o", ours), withTree("b", "o", theirs))...)
				a, b, o := idNamed("a"), idNamed("b"), idNamed("o")
				// Only the later one's files are asked where one comes from the other.
				wantMergeCode(t, "the same", fork, a, a, ofOurs)
				wantMergeCode(t, "theirs is the parent", fork, a, o, ofOurs)
				wantMergeCode(t, "ours is the parent", fork, o, b, ofTheirs)
				wantMergeCode(t, "a fork", fork, a, b, first(ofBase, ofOurs, ofTheirs))
				wantMergeCode(t, "a fork, turned round", fork, b, a, first(ofBase, ofTheirs, ofOurs))
				if r := wantVirtual(t, "a fork", fork, a, b); r.Code != ofBase {
					t.Errorf("VirtualFiles of a fork: %d, want %d", r.Code, ofBase)
				}
				none := soundStore(append(slices.Clone(trees), withTree("a", "", ours), withTree("b", "", theirs))...)
				wantMergeCode(t, "no base", none, a, b, first(ofOurs, ofTheirs))
				cross := soundStore(append(slices.Clone(trees), withTree("o", "", base), withTree("p", "", ours), withTree("a", "op", theirs), withTree("b", "po", ours))...)
				wantMergeCode(t, "two bases", cross, a, b, first(ofBase, ofOurs, ofTheirs))
			}
		}
	}
}

func TestMergeCommitsOfManyBases(t *testing.T) {
	bad := objectOf(impl.KindTree, "bad")
	roots := map[string]string{"a": "w=1|", "b": "x=2|", "c": "y=3|", "d": "z=4|"}
	y, z := idNamed("y"), idNamed("z")
	four := crossing(roots, "w=1| x=2| y=3| z=5|", "w=1| x=6| y=3| z=4|")
	if r := wantCommitsMerged(t, "four bases", four, y, z); tellMerged(treesIn(r)) != "w 0 1:1|, x 0 1:6|, y 0 1:3|, z 0 1:5|" {
		t.Errorf("four bases: %d, %q", r.Code, tellMerged(treesIn(r)))
	}
	clashing := crossing(map[string]string{"a": "x=1|", "b": "x=2|", "c": "x=3|", "d": "x=4|"}, "x=5|", "x=5| y=1|")
	if r := wantCommitsMerged(t, "four bases that clash", clashing, y, z); tellMerged(treesIn(r)) != "x 0 1:5|, y 0 1:1|" || len(r.Store) != len(clashing)+3 {
		t.Errorf("four bases that clash: %d, %q", r.Code, tellMerged(treesIn(r)))
	}
	roots["e"] = "v=5|"
	five := crossing(roots, "x=1|", "x=3|")
	wantMergeCode(t, "five bases", five, y, z, impl.ErrMany)
	wantMergeCode(t, "five bases, one is the parent", five, y, idNamed("r"), impl.OK)
	wantMergeCode(t, "five bases, no trees", withoutKind(five, impl.KindTree), y, z, impl.ErrMany)
	// Too many bases are told ahead of what is wrong with the files of one, of ours or of theirs.
	objects := []impl.Object{bad}
	for _, letter := range []string{"a", "b", "c", "d", "e"} {
		objects = append(objects, withTree(letter, "", bad.Id))
	}
	objects = append(objects, withTree("r", "abc", "t1234"), withTree("y", "rde", "t1234"), withTree("z", "abc", "t1234"), withTree("s", "zde", bad.Id))
	wantMergeCode(t, "five bases, no files", soundStore(objects...), y, idNamed("s"), impl.ErrMany)
	wantMergeCode(t, "three bases, no files", soundStore(objects...), idNamed("r"), z, impl.ErrText)
}

func TestMergeCommitsTellsTheCodesOfMerging(t *testing.T) {
	fork := told("o x=1|", "a:o x=2| y=1|", "b:o x=3| y/z=1|")
	wantMergeCode(t, "taken", fork, idNamed("a"), idNamed("b"), impl.ErrTaken)
	wantMergeCode(t, "taken, as it is", fork, idNamed("a"), idNamed("o"), impl.OK)
	wantMergeCode(t, "bases taken", told("o x=1|", "p x/y=1|", "a:op", "b:op"), idNamed("a"), idNamed("b"), impl.ErrTaken)
	wantMergeCode(t, "bases of too many files", told("o "+manyFiles("p", 31), "p "+manyFiles("q", 30), "a:op", "b:op"), idNamed("a"), idNamed("b"), impl.ErrMany)
	both := told("o", "a:o "+manyFiles("p", 60), "b:o "+manyFiles("q", 60))
	if r := wantCommitsMerged(t, "more than may be committed", both, idNamed("a"), idNamed("b")); r.Code != impl.OK || len(r.Index) != 2*maxFiles || wantFinished(t, "more than may be committed", r.Store, r.Index, idNamed("a"), idNamed("b"), 1, "").Code != impl.ErrMany {
		t.Errorf("more than may be committed: %d, %d entries", r.Code, len(r.Index))
	}
	merging := told("o x=1|2|3|", "a:o x=0|2|3|", "b:o x=1|2|4|")
	made := "0\n2\n4\n"
	cross := told("o x=2|", "p x=3|", "a:op x=4|", "b:op x=4|")
	base := untold(clashed("2|", "3|"))
	for _, c := range []struct {
		name  string
		store []impl.Object
		code  int64
	}{
		{"room for one", withOthers(maxObjects-1, merging...), impl.OK},
		{"no room", withOthers(maxObjects, merging...), impl.ErrMany},
		{"no room, it is there", withOthers(maxObjects, append(slices.Clone(merging), objectOf(1, made))...), impl.OK},
		{"other data of its name", soundStore(append(slices.Clone(merging), refusing(made))...), impl.ErrClash},
		{"no room, other data of its name", withOthers(maxObjects, append(slices.Clone(merging), refusing(made))...), impl.ErrClash},
		{"the base: room for one", withOthers(maxObjects-1, cross...), impl.OK},
		{"the base: no room", withOthers(maxObjects, cross...), impl.ErrMany},
		{"the base: no room, it is there", withOthers(maxObjects, append(slices.Clone(cross), objectOf(1, base))...), impl.OK},
		{"the base: other data of its name", soundStore(append(slices.Clone(cross), refusing(base))...), impl.ErrClash},
	} {
		wantMergeCode(t, c.name, c.store, idNamed("a"), idNamed("b"), c.code)
		// What is taken as it is has nothing put.
		wantMergeCode(t, c.name, c.store, idNamed("a"), idNamed("o"), impl.OK)
		wantMergeCode(t, c.name, c.store, idNamed("o"), idNamed("b"), impl.OK)
	}
	// The code of a base is told ahead of that of ours, and that of the files ahead of that of merging them.
	bad := objectOf(impl.KindTree, "bad")
	behind := append(slices.Clone(cross), bad, withTree("c", "op", bad.Id))
	wantMergeCode(t, "no room for the base, ours cannot be read", withOthers(maxObjects, behind...), idNamed("c"), idNamed("b"), impl.ErrMany)
	wantMergeCode(t, "room for the base, ours cannot be read", withOthers(maxObjects-1, behind...), idNamed("c"), idNamed("b"), impl.ErrText)
	wantMergeCode(t, "theirs cannot be read", withOthers(maxObjects-1, behind...), idNamed("a"), idNamed("c"), impl.ErrText)
}

func TestMergeCommitsOfBlobsThatAreNotThere(t *testing.T) {
	fork := told("o w=1| x=1|", "a:o w=2| x=1|", "b:o w=1| x=3|", "c:a w=2| x=4|")
	cross := told("o x=1|", "p y=2|", "a:op z=3|", "b:op v=4| z=3|")
	a, b, c, o := idNamed("a"), idNamed("b"), idNamed("c"), idNamed("o")
	for _, text := range []string{"1|", "2|", "3|"} {
		store := withoutBlob(fork, text)
		wantMergeCode(t, "a fork without "+text, store, a, b, impl.ErrNone)
		wantMergeCode(t, "a fork without "+text, store, b, a, impl.ErrNone)
	}
	wantMergeCode(t, "a fork without what is beside it", withoutBlob(fork, "4|"), a, b, impl.OK)
	for _, text := range []string{"1|", "2|", "3|", "4|"} {
		wantMergeCode(t, "two bases without "+text, withoutBlob(cross, text), a, b, impl.ErrNone)
	}
	bare := withoutKind(fork, impl.KindBlob)
	wantMergeCode(t, "a fork without blobs", bare, a, b, impl.ErrNone)
	for _, pair := range [][2]string{{a, a}, {a, o}, {o, a}, {c, o}, {c, a}, {o, c}, {b, b}} {
		r := wantCommitsMerged(t, "no blobs", bare, pair[0], pair[1])
		if r.Code != impl.OK || r.Kind == impl.MergeDone || !slices.Equal(r.Store, bare) || len(r.Index) != 2 || !impl.IsClean(r) {
			t.Errorf("no blobs: %+v", r)
		}
	}
	wantMergeCode(t, "no base, no blobs", withoutKind(told("a x=1|", "b"), impl.KindBlob), a, b, impl.ErrNone)
	wantMergeCode(t, "no base, no blobs, no files", told("a", "b"), a, b, impl.OK)
	// A blob that is not there is told ahead of a path that is taken.
	wantMergeCode(t, "not there ahead of taken", withoutBlob(told("a x=1|", "b x/y=2|"), "2|"), a, b, impl.ErrNone)
}

func TestMergeCommitsInEachOthersHistory(t *testing.T) {
	for _, c := range []struct {
		name         string
		commits      []string
		ours, theirs string
		kind         int64
		want         string
	}{
		{"two, the one", []string{"a:b x=1|", "b:a x=2|"}, "a", "b", impl.MergeAlready, "x 0 1:1|"},
		{"two, the other", []string{"a:b x=1|", "b:a x=2|"}, "b", "a", impl.MergeAlready, "x 0 1:2|"},
		{"its own parent", []string{"a:a x=1|"}, "a", "a", impl.MergeAlready, "x 0 1:1|"},
		{"its own parent, and who comes from it", []string{"a:a x=1|", "b:a x=2|"}, "a", "b", impl.MergeForward, "x 0 1:2|"},
		{"three, one and the next", []string{"a:b x=1|", "b:c x=2|", "c:a x=3|"}, "a", "b", impl.MergeAlready, "x 0 1:1|"},
		{"three, one and the last", []string{"a:b x=1|", "b:c x=2|", "c:a x=3|"}, "a", "c", impl.MergeAlready, "x 0 1:1|"},
		{"who comes from a ring", []string{"a:b x=1|", "b:a x=2|", "c:b x=3|"}, "c", "a", impl.MergeAlready, "x 0 1:3|"},
		{"who comes from a ring, turned round", []string{"a:b x=1|", "b:a x=2|", "c:b x=3|"}, "a", "c", impl.MergeForward, "x 0 1:3|"},
		{"a ring in common is no base", []string{"a:b x=1|", "b:a x=1|", "c:a x=1| y=2|", "d:b x=1| y=3|"}, "c", "d", impl.MergeDone, "x 0 1:1|, y 2 1:2|, y 3 1:3|, y=" + clashed("2|", "3|")},
		{"a ring in common, and a base beside it", []string{"a:b x=1|", "b:a x=1|", "o y=1|", "c:ao y=2|", "d:bo y=1|"}, "c", "d", impl.MergeDone, "y 0 1:2|"},
		{"a base that is its own parent", []string{"o:o x=1|", "a:o x=2|", "b:o x=1|"}, "a", "b", impl.MergeDone, "x 0 1:2|"},
	} {
		r := wantCommitsMerged(t, c.name, told(c.commits...), idNamed(c.ours), idNamed(c.theirs))
		if told := tellMerged(treesIn(r)); r.Code != impl.OK || r.Kind != c.kind || told != c.want {
			t.Errorf("%s: %d, kind %d, %q, want kind %d, %q", c.name, r.Code, r.Kind, told, c.kind, c.want)
		}
	}
}

// smallTrees: trees that merge with one another, clash, and are taken, told as treeOfTexts takes them.
var smallTrees = []string{"", "x=1|2|3|", "x=0|2|3| y=1|", "x*=1|2|4|", "x=5| y=2|", "x=1|2|3| y*=2|", "y=1|", "x/y=1|"}

// wantEveryMerge: every two of the commits are merged, and what is clean is finished.
func wantEveryMerge(t *testing.T, name string, store []impl.Object, ids []string, met map[string]int) {
	t.Helper()
	for _, ours := range ids {
		for _, theirs := range ids {
			wantVirtual(t, name, store, ours, theirs)
			r := wantCommitsMerged(t, name, store, ours, theirs)
			met[fmt.Sprintf("code %d, kind %d, %v", r.Code, r.Kind, impl.IsClean(r))]++
			if r.Code != impl.OK {
				continue
			}
			met[fmt.Sprintf("%d bases", len(impl.BasesOf(store, ours, theirs).Lines))]++
			met[fmt.Sprintf("finished with %d", wantFinished(t, name, r.Store, r.Index, ours, theirs, 9, "merged").Code)]++
		}
	}
}

// wantMet: each of these was met so often at least.
func wantMet(t *testing.T, met map[string]int, least int, names ...string) {
	t.Helper()
	for _, name := range names {
		if met[name] < least {
			t.Errorf("%s is met %d times: %v", name, met[name], met)
		}
	}
}

func TestPromise13EveryGraphOfFourWithoutRings(t *testing.T) {
	shapes := [][]string{nil}
	for i, letter := range strings.Split("abcd", "") {
		var more [][]string
		for _, shape := range shapes {
			for _, parents := range parentSets("abcd"[:i]) {
				more = append(more, append(slices.Clone(shape), letter+":"+parents))
			}
		}
		shapes = more
	}
	if len(shapes) != 1*2*4*8 {
		t.Errorf("there are %d graphs", len(shapes))
	}
	random := rand.New(rand.NewSource(31))
	met := map[string]int{}
	for _, shape := range shapes {
		for round := range 8 {
			var commits []string
			for _, head := range shape {
				commits = append(commits, head+" "+smallTrees[random.Intn(len(smallTrees)-round%2)])
			}
			wantEveryMerge(t, strings.Join(commits, "; "), told(commits...), named("abcd"), met)
		}
	}
	wantMet(t, met, 20, "code 0, kind 0, true", "code 0, kind 0, false", "code 0, kind 1, true", "code 0, kind 2, true", "code 7, kind 0, false", "0 bases", "1 bases", "finished with 0", "finished with 8")
}

func TestPromise13HistoriesThatCross(t *testing.T) {
	random := rand.New(rand.NewSource(34))
	met := map[string]int{}
	for round := range 160 {
		// Seldom the one that is within another, as with it nothing merges.
		tree := func() string { return smallTrees[random.Intn(len(smallTrees)-min(1, random.Intn(9)))] }
		roots := map[string]string{}
		for _, letter := range strings.Split("abcde", "")[:2+round%4] {
			roots[letter] = tree()
		}
		store := crossing(roots, tree(), tree())
		if round%5 == 4 {
			store = withOthers(maxObjects-random.Intn(3), store...)
		}
		wantEveryMerge(t, fmt.Sprintf("round %d", round), store, named("ayz"), met)
	}
	wantMet(t, met, 10, "code 0, kind 0, true", "code 0, kind 0, false", "code 2, kind 0, false", "code 7, kind 0, false", "2 bases", "3 bases", "4 bases", "finished with 0", "finished with 8")
}

func TestPromise13GraphsWithRings(t *testing.T) {
	random := rand.New(rand.NewSource(32))
	met := map[string]int{}
	for range 150 {
		var commits []string
		for _, letter := range strings.Split("abcd", "") {
			sets := parentSets("abcdz"[:4+random.Intn(20)/19])
			commits = append(commits, letter+":"+sets[random.Intn(len(sets))]+" "+smallTrees[random.Intn(len(smallTrees))])
		}
		store := told(commits...)
		for _, ours := range named("abcd") {
			for _, theirs := range named("abcd") {
				wantVirtual(t, strings.Join(commits, "; "), store, ours, theirs)
				r := wantCommitsMerged(t, strings.Join(commits, "; "), store, ours, theirs)
				met[fmt.Sprintf("code %d, kind %d", r.Code, r.Kind)]++
				met[fmt.Sprintf("without a ring %v", isWithoutRing(store, ours, theirs))]++
			}
		}
	}
	wantMet(t, met, 20, "code 0, kind 0", "code 0, kind 1", "code 0, kind 2", "code 4, kind 0", "without a ring true", "without a ring false")
}

// grown: a history that grows at random, from three commits without parents: each has the files of its first parent with some changes.
func grown(random *rand.Rand, store []impl.Object, count int, isDeep bool, blobs []impl.Object) ([]impl.Object, []string) {
	var paths, ids []string
	for range 6 {
		paths = append(paths, randomPath(random, isDeep))
	}
	slices.Sort(paths)
	paths = slices.Compact(paths)
	for step := range count {
		var parents []string
		var files []impl.File
		for range min(len(ids)/3, 1) * (1 + random.Intn(3)) {
			// Near ones, so that many cross.
			if parent := ids[max(0, len(ids)-1-random.Intn(4))]; !slices.Contains(parents, parent) {
				parents = append(parents, parent)
			}
		}
		if len(parents) > 0 {
			files = impl.CommitFiles(store, parents[0]).Files
		}
		files = randomChanges(random, files, paths, blobs, 1+random.Intn(4))
		// What is taken, or has no room or another name's data, is left out.
		if r := impl.AddCommit(store, files, parents, int64(step), "grown"); r.Code == impl.OK {
			store = r.Store
			ids = append(ids, r.Id)
		}
	}
	return store, ids
}

func TestPromise13RandomHistories(t *testing.T) {
	random := rand.New(rand.NewSource(33))
	met := map[string]int{}
	for round := range 30 {
		blobs := alikeBlobs(random, 8)
		store := soundStore(blobs...)
		if round%5 == 4 {
			store = withOthers(maxObjects-30, blobs...)
		}
		store, ids := grown(random, store, 16, round%3 == 0, blobs)
		if round%7 == 6 {
			store = withoutBlob(store, withBars(blobs[0].Data))
		}
		wantEveryMerge(t, fmt.Sprintf("round %d", round), store, ids[max(0, len(ids)-7):], met)
	}
	wantMet(t, met, 10, "code 0, kind 0, true", "code 0, kind 0, false", "code 0, kind 1, true", "code 0, kind 2, true", "code 4, kind 0, false", "code 7, kind 0, false", "1 bases", "2 bases", "finished with 0", "finished with 8")
	wantMet(t, met, 1, "0 bases", "code 2, kind 0, false")
}

func TestIsClean(t *testing.T) {
	stage := func(stages ...int64) []impl.Entry {
		var index []impl.Entry
		for _, one := range stages {
			index = append(index, impl.Entry{Path: "a", Stage: one, Mode: 1, Id: "b0001"})
		}
		return index
	}
	for _, c := range []struct {
		name string
		r    impl.CommitsResult
		want bool
	}{
		{"nothing", impl.CommitsResult{}, true},
		{"an empty index", impl.CommitsResult{Index: []impl.Entry{}}, true},
		{"settled", impl.CommitsResult{Index: staged("a=0 b=0 c/d=0")}, true},
		{"as many as may be", impl.CommitsResult{Index: fullIndex(maxEntries, "0")}, true},
		{"another kind", impl.CommitsResult{Kind: impl.MergeAlready, Index: staged("a=0")}, true},
		{"no kind", impl.CommitsResult{Kind: 77, Index: staged("a=0")}, true},
		{"works, and no clash", impl.CommitsResult{Index: staged("a=0"), Works: worksOf("a=x")}, true},
		{"a store with a fault", impl.CommitsResult{Store: make([]impl.Object, 3)}, true},
		{"stage 1", impl.CommitsResult{Index: staged("a=1")}, false},
		{"stage 2", impl.CommitsResult{Index: staged("a=2")}, false},
		{"stage 3", impl.CommitsResult{Index: staged("a=3")}, false},
		{"a clash, the first", impl.CommitsResult{Index: staged("a=123 b=0 c=0")}, false},
		{"a clash, the last", impl.CommitsResult{Index: staged("a=0 b=0 c=3")}, false},
		{"a clash without works", impl.CommitsResult{Index: staged("a=0 b=2 c=0")}, false},
		{"a clash in a merge that is done already", impl.CommitsResult{Kind: impl.MergeForward, Index: staged("a=2")}, false},
		// No fault of the index is asked.
		{"a zero entry", impl.CommitsResult{Index: make([]impl.Entry, 1)}, true},
		{"one twice", impl.CommitsResult{Index: stage(0, 0)}, true},
		{"not rising", impl.CommitsResult{Index: staged("b=0 a=0")}, true},
		{"far too many", impl.CommitsResult{Index: make([]impl.Entry, 100000)}, true},
		{"a stage below all", impl.CommitsResult{Index: stage(-1, math.MinInt64, 0)}, true},
		{"a stage above all", impl.CommitsResult{Index: stage(0, 4)}, false},
		{"a stage far above all", impl.CommitsResult{Index: stage(math.MaxInt64)}, false},
		{"a stage above what 32 bits hold", impl.CommitsResult{Index: stage(1 << 32)}, false},
		{"stages that do not rise", impl.CommitsResult{Index: stage(3, 1, 0)}, false},
		{"far too many, the last clashes", impl.CommitsResult{Index: append(make([]impl.Entry, 100000), stage(1)...)}, false},
	} {
		if got := impl.IsClean(c.r); got != c.want {
			t.Errorf("%s: %v", c.name, got)
		}
		for _, code := range []int64{-1, impl.ErrForm, impl.ErrBusy, impl.ErrDown, 77, 1 << 32, math.MinInt64, math.MaxInt64} {
			c.r.Code = code
			if impl.IsClean(c.r) {
				t.Errorf("%s, code %d: it is clean", c.name, code)
			}
		}
	}
}

func TestPromise13WhatIsFinished(t *testing.T) {
	store := told("o x=1|2|3|", "a:o x=0|2|3|", "b:o x=1|2|4|", "c:o x=9|")
	a, b, c := idNamed("a"), idNamed("b"), idNamed("c")
	m := wantCommitsMerged(t, "a clean merge", store, a, b)
	z := wantFinished(t, "a clean merge", m.Store, m.Index, a, b, 7, "a and b")
	if z.Code != impl.OK || tellFolded(impl.BaseResult{Store: z.Store, Files: impl.CommitFiles(z.Store, z.Id).Files}) != "x 1:0|2|4|" {
		t.Errorf("a clean merge: %+v", z)
	}
	if r := impl.HistoryOf(z.Store, z.Id); len(r.Lines) != 4 {
		t.Errorf("a clean merge: its history is %+v", r)
	}
	// A merge that clashes is finished once it is settled.
	m = wantCommitsMerged(t, "a clash", z.Store, z.Id, c)
	if r := wantFinished(t, "a clash", m.Store, m.Index, z.Id, c, 8, ""); r.Code != impl.ErrBusy {
		t.Errorf("a clash: %d", r.Code)
	}
	settled := impl.ResolvePath(m.Index, "x", impl.ModeRun, objectOf(1, "9\n").Id)
	y := wantFinished(t, "a clash that is settled", m.Store, settled.Entries, z.Id, c, 8, "")
	if y.Code != impl.OK || !sameLinesResult(impl.ParentsOf(y.Store, y.Id), impl.LinesResult{Lines: []string{z.Id, c}}) {
		t.Errorf("a clash that is settled: %+v", y)
	}
	for _, k := range []struct {
		name         string
		index        []impl.Entry
		ours, theirs string
		time         int64
		note         string
	}{
		{"no files", nil, a, b, 0, ""},
		{"files whose blobs are not there", staged("p=0 q/r=0"), a, b, 1e9, strings.Repeat("~", 60)},
		{"as many files as may be", fullIndex(maxFiles, "0"), b, a, 5, " "},
		{"one comes from the other", staged("p=0"), a, idNamed("o"), 5, "back"},
	} {
		if r := wantFinished(t, k.name, store, k.index, k.ours, k.theirs, k.time, k.note); r.Code != impl.OK {
			t.Errorf("%s: %d", k.name, r.Code)
		}
	}
}

func TestFinishMergeTellsItsCodes(t *testing.T) {
	store := soundStore(append(told("o x=1|", "a:o x=2|", "b:o x=3|"), unreadAt(idNamed("u")))...)
	a, b, u, z := idNamed("a"), idNamed("b"), idNamed("u"), idNamed("z")
	good, long := staged("d/x=0"), strings.Repeat("a", 61)
	form, many, wrong, none, text, clash := int64(impl.ErrForm), int64(impl.ErrMany), int64(impl.ErrRange), int64(impl.ErrNone), int64(impl.ErrText), int64(impl.ErrClash)
	want := func(name string, store []impl.Object, index []impl.Entry, ours string, theirs string, time int64, note string, code int64) {
		t.Helper()
		if r := wantFinished(t, name, store, index, ours, theirs, time, note); r.Code != code {
			t.Errorf("%.80s: %d, want %d", name, r.Code, code)
		}
	}
	for name, faulty := range faultyStores() {
		want(name, faulty.store, good, a, b, 1, "", faulty.code)
		want(name+", all else wrong", faulty.store, faultyIndexes()["mode 3"].index, "", "", -1, long, faulty.code)
		want(name+", a clash", faulty.store, staged("a=2"), a, a, -1, long, faulty.code)
	}
	for name, faulty := range faultyIndexes() {
		name = fmt.Sprintf("%.60s", name)
		want(name, store, faulty.index, a, b, 1, "", faulty.code)
		want(name+", ours is theirs", store, faulty.index, a, a, -1, long, faulty.code)
		want(name+", no parents", withOthers(maxObjects), faulty.index, z, "", 1, "", faulty.code)
	}
	for _, c := range []struct {
		name  string
		index []impl.Entry
		code  int64
	}{
		{"a clash", staged("a=0 b=23"), impl.ErrBusy},
		{"a clash, and too many files", append(fullIndex(maxFiles+1, "0"), staged("z=1")...), impl.ErrBusy},
		{"a clash within", staged("a=0 a/b=1"), impl.ErrBusy},
		{"too many files", fullIndex(maxFiles+1, "0"), many},
		{"one within another", staged("a=0 a/b=0"), impl.ErrTaken},
		{"one far within another", staged("a=0 a-=0 a/b/c=0"), impl.ErrTaken},
	} {
		for _, ids := range [][2]string{{a, b}, {a, a}, {z, z}, {"", ""}, {"x", b}, {a, z}} {
			want(c.name, store, c.index, ids[0], ids[1], 1, "", c.code)
			want(c.name+", no time", store, c.index, ids[0], ids[1], -1, long, c.code)
		}
	}
	for _, id := range slices.Concat(wrongIds, []string{a, z, u, "b03f6", "t0007"}) {
		for _, time := range []int64{0, -1} {
			want("ours is theirs", store, good, id, id, time, "", form)
			want("ours is theirs, a wrong note", store, nil, id, strings.Clone(id), time, long, form)
		}
	}
	for _, id := range slices.Concat(wrongIds, []string{"b03f6", "t0007"}) {
		want("ours is no id", store, good, id, b, -1, long, form)
		want("theirs is no id", store, good, a, id, -1, long, form)
		want("theirs is no id, ours is not there", store, good, z, id, 1, "", form)
	}
	for _, time := range []int64{math.MinInt64, -1, 1e9 + 1, math.MaxInt64} {
		want("a wrong time", store, good, a, b, time, "", wrong)
		want("a wrong time and note, no parents", store, good, z, idNamed("y"), time, long, wrong)
	}
	for _, note := range []string{long, "\n", "a\x7f", "\x00", "\xff"} {
		want("a wrong note", store, good, a, b, 0, note, text)
		want("a wrong note, no parents, no room", withOthers(maxObjects), good, a, b, 0, note, text)
	}
	want("ours is not there", store, good, z, b, 0, "", none)
	want("theirs is not there", store, good, a, z, 0, "", none)
	want("neither is there, no room", withOthers(maxObjects), good, a, b, 0, "", none)
	want("theirs cannot be read", store, good, a, u, 0, "", impl.OK)
	wantPutInOrder(t, store, good, a, b, many, clash)
}

// wantPutInOrder: the trees of what is finished are put, and then the commit.
func wantPutInOrder(t *testing.T, store []impl.Object, index []impl.Entry, ours string, theirs string, many int64, clash int64) {
	t.Helper()
	made := wantFinished(t, "room for all", store, index, ours, theirs, 1, "put")
	if made.Code != impl.OK || len(made.Store) != len(store)+3 {
		t.Fatalf("room for all: %+v", made)
	}
	commit := impl.GetObject(made.Store, impl.KindCommit, made.Id).Object
	whole := impl.GetObject(made.Store, impl.KindTree, impl.DecodeCommit(commit.Data).Commit.Tree).Object
	twinOf := func(object impl.Object) impl.Object { return objectOf(object.Kind, treeTwin(object.Data)) }
	with := func(count int, more ...impl.Object) []impl.Object {
		return withOthers(count, slices.Concat(store, more)...)
	}
	for _, c := range []struct {
		name  string
		store []impl.Object
		code  int64
	}{
		{"as much room as is needed", with(maxObjects - 3), impl.OK},
		{"room for the trees alone", with(maxObjects - 2), many},
		{"no room", with(maxObjects), many},
		{"no room, all is there", withOthers(maxObjects, made.Store...), impl.OK},
		{"other data of the commit's name", with(100, twinOf(commit)), clash},
		{"other data of the commit's name, no room", with(maxObjects, twinOf(commit)), many},
		{"other data of the tree's name", with(100, twinOf(whole)), clash},
		{"other data of the tree's name, no room for the one within", with(maxObjects, twinOf(whole)), many},
	} {
		if r := wantFinished(t, c.name, c.store, index, ours, theirs, 1, "put"); r.Code != c.code {
			t.Errorf("%s: %d, want %d", c.name, r.Code, c.code)
		}
	}
}

func TestFinishedMergesOfLongHistories(t *testing.T) {
	row := append(rowOf(maxHistory), objectOf(impl.KindTree, ""))
	store := soundStore(append(row, withTree("a", "", "t0007"))...)
	// It is committed, however long the history that comes of it is.
	for _, c := range []struct {
		at   int
		code int64
	}{{maxHistory - 3, impl.OK}, {maxHistory - 2, impl.ErrMany}, {maxHistory - 1, impl.ErrMany}} {
		r := wantFinished(t, "a long row", store, nil, idNumbered(c.at), idNamed("a"), 1, "")
		if r.Code != impl.OK || impl.HistoryOf(r.Store, r.Id).Code != c.code {
			t.Errorf("%d: %d, %+v", c.at, r.Code, impl.HistoryOf(r.Store, r.Id))
		}
	}
}

// commitsCase: the arguments of the functions of chapter 12.
type commitsCase struct {
	store  []impl.Object
	ours   string
	theirs string
	bases  []string
	index  []impl.Entry
	works  []impl.Work
	time   int64
	note   string
	merged impl.CommitsResult
}

// anyCommitsMerged: arguments with and without faults, of every kind of merge.
func anyCommitsMerged() []commitsCase {
	fork := told("o x=1|2|3| y=1|", "a:o x=0|2|3| y=2|", "b:o x=1|2|4| y=3| z/z*=4|")
	cross := told("o x=2|", "p x*=3|", "a:op x=4| y=1|", "b:op x=5| y=1|")
	roots := map[string]string{"a": "x=1|", "b": "x=2|", "c": "x=3| y=4|", "d": "z=4|"}
	stores := [][]impl.Object{fork, cross, crossing(roots, "x=5| y=4|", "x=6| z=4|"), told("a:b x=1|", "b:a x=2|", "c:a y=3|"), withoutKind(fork, impl.KindBlob), withOthers(maxObjects, cross...), mixedBases(), nil, faultyStores()["not rising"].store, faultyStores()["too many"].store}
	indexes := [][]impl.Entry{nil, staged("a=0 b/c=0"), staged("a=23 b=0 c=1"), staged("a=123 b=12"), fullIndex(maxFiles, "0"), faultyIndexes()["one twice"].index, staged("a=0 a/b=2")}
	works := [][]impl.Work{nil, worksOf("a=text|of|a| b=text|of|b| c=text|of|c|"), worksOf("c=1| b=2| a=3| a/b=4|"), {{Path: "a", Text: strings.Repeat("x", maxText+1)}}}
	var cases []commitsCase
	for i, store := range stores {
		for j, pair := range []string{"ab", "ba", "oa", "bo", "aa", "yz", "zy", "ya", "ca", "xq"} {
			c := commitsCase{store: store, ours: idNamed(pair[:1]), theirs: idNamed(pair[1:]), bases: named([]string{"op", "", "a", "abc", "ca", "abcd", "bb", "opopo"}[(i+j)%8])}
			c.index, c.works = indexes[(i*3+j)%len(indexes)], works[(i+j*3)%len(works)]
			c.time, c.note = int64(j)-1, []string{"note of it", "", "another note", "\n"}[(i+j)%4]
			c.merged = impl.CommitsResult{Code: int64(j % 9 / 8), Index: c.index, Works: c.works}
			cases = append(cases, c)
		}
	}
	return cases
}

// tellCommits: what all functions of chapter 12 answer to these arguments, in words.
func tellCommits(c commitsCase) string {
	return fmt.Sprintf("%#v %#v %#v %#v %v %#v", impl.VirtualFiles(c.store, c.ours, c.theirs), impl.FoldBases(c.store, c.bases), impl.MergeCommits(c.store, c.ours, c.theirs), impl.SettleClashes(c.store, c.index, c.works), impl.IsClean(c.merged), impl.FinishMerge(c.store, c.index, c.ours, c.theirs, c.time, c.note))
}

func TestPromise1MergedHistoriesHangOnTheArgumentsAlone(t *testing.T) {
	cases := anyCommitsMerged()
	tell := func(i int) string {
		c := cases[i]
		c.store, c.bases, c.index, c.works = slices.Clone(c.store), slices.Clone(c.bases), slices.Clone(c.index), slices.Clone(c.works)
		c.ours, c.theirs, c.note = strings.Clone(c.ours), strings.Clone(c.theirs), strings.Clone(c.note)
		return tellCommits(c)
	}
	answers := make([]string, len(cases))
	for i := range answers {
		answers[i] = tell(i)
	}
	// Backwards each call stands behind other ones than before.
	for i := len(answers) - 1; i >= 0; i-- {
		if tell(i) != answers[i] {
			t.Errorf("case %d: another answer at the second call", i)
		}
	}
	// Often, so that no order in which a map is gone through is seen.
	for _, i := range []int{0, 10, 25, 65} {
		for range 30 {
			if tell(i) != answers[i] {
				t.Errorf("case %d: another answer at another call", i)
			}
		}
	}
}

func TestPromise1MergedHistoriesChangeNoArgument(t *testing.T) {
	for i, c := range anyCommitsMerged() {
		// What lies behind a list in its memory is not the function's either.
		store, bases := append(slices.Clone(c.store), impl.Object{Id: "behind", Kind: 7}), append(slices.Clone(c.bases), "behind")
		index, works := append(slices.Clone(c.index), impl.Entry{Path: "behind"}), append(slices.Clone(c.works), impl.Work{Path: "behind"})
		keptStore, keptBases, keptIndex, keptWorks := slices.Clone(store), slices.Clone(bases), slices.Clone(index), slices.Clone(works)
		c.store, c.bases, c.index, c.works = store[:len(store)-1], bases[:len(bases)-1], index[:len(index)-1], works[:len(works)-1]
		c.merged = impl.CommitsResult{Store: c.store, Index: c.index, Works: c.works}
		tellCommits(c)
		if !slices.Equal(store, keptStore) || !slices.Equal(bases, keptBases) || !slices.Equal(index, keptIndex) || !slices.Equal(works, keptWorks) {
			t.Errorf("case %d: a list was changed, or what lies behind it", i)
		}
	}
}

func TestPromise1MergedHistoriesAreNewMemory(t *testing.T) {
	looked := map[string]int{}
	for i, c := range anyCommitsMerged() {
		// The texts of a great store are too many to be held against each other; all are made in one way.
		if len(c.store) > 60 {
			continue
		}
		given := slices.Concat(textsOfStore(c.store), textsOfIndex(c.index), c.bases, []string{c.ours, c.theirs, c.note})
		for _, work := range c.works {
			given = append(given, work.Path, work.Text)
		}
		before := tellCommits(c)
		for name, r := range map[string]impl.BaseResult{"VirtualFiles": impl.VirtualFiles(c.store, c.ours, c.theirs), "FoldBases": impl.FoldBases(c.store, c.bases), "SettleClashes": impl.SettleClashes(c.store, c.index, c.works)} {
			wantNewTexts(t, fmt.Sprintf("case %d, %s", i, name), given, append(textsOfStore(r.Store), textsOfFiles(r.Files...)...))
			looked[fmt.Sprintf("%s, %v", name, len(r.Files) > 0 && len(r.Store) > len(c.store))]++
			clear(r.Store)
			clear(r.Files)
		}
		r := impl.MergeCommits(c.store, c.ours, c.theirs)
		texts := append(textsOfStore(r.Store), textsOfIndex(r.Index)...)
		for _, work := range r.Works {
			texts = append(texts, work.Path, work.Text)
		}
		wantNewTexts(t, fmt.Sprintf("case %d, MergeCommits", i), given, texts)
		looked[fmt.Sprintf("MergeCommits, code %v, kind %d, %v", r.Code == impl.OK, r.Kind, len(r.Works) > 0)]++
		clear(r.Store)
		clear(r.Index)
		clear(r.Works)
		finished := impl.FinishMerge(c.store, c.index, c.ours, c.theirs, c.time, c.note)
		wantNewTexts(t, fmt.Sprintf("case %d, FinishMerge", i), given, append(textsOfStore(finished.Store), finished.Id))
		looked[fmt.Sprintf("FinishMerge, %v", finished.Code == impl.OK)]++
		clear(finished.Store)
		if tellCommits(c) != before {
			t.Errorf("case %d: an answer shares its lists with an argument, or with another answer", i)
		}
	}
	wantMet(t, looked, 1, "VirtualFiles, true", "FoldBases, true", "SettleClashes, true", "MergeCommits, code true, kind 0, true", "MergeCommits, code true, kind 0, false", "MergeCommits, code true, kind 1, false", "MergeCommits, code true, kind 2, false", "FinishMerge, true", "FinishMerge, false")
}
