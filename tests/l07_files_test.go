package tests

import (
	"fmt"
	"maps"
	"math/rand"
	"slices"
	"strconv"
	"strings"
	"sync"
	"testing"

	"loop.example/g00172/impl"
)

const maxFiles = 60
const maxParts = 4
const maxTrees = 200

func TestNumbersOfTheFiles(t *testing.T) {
	got := []int64{impl.MaxFiles, impl.MaxParts, impl.MaxTrees}
	if !slices.Equal(got, []int64{maxFiles, maxParts, maxTrees}) {
		t.Errorf("bounds of files: %d", got)
	}
}

func pathFaultByWords(path string) int64 {
	names := strings.Split(path, "/")
	if len(names) > maxParts || slices.ContainsFunc(names, func(name string) bool { return nameFaultByWords(name) != impl.OK }) {
		return impl.ErrForm
	}
	return impl.OK
}

// inDirByWords tries every place where the slash may stand.
func inDirByWords(path string, dir string) bool {
	for at := range len(path) {
		if path[at] == '/' && path[:at] == dir && path[at+1:] != "" {
			return true
		}
	}
	return false
}

func filesFaultByWords(files []impl.File) int64 {
	if len(files) > maxFiles {
		return impl.ErrMany
	}
	for i, file := range files {
		if pathFaultByWords(file.Path) != impl.OK {
			return impl.ErrForm
		}
		if !slices.Contains([]int64{1, 2}, file.Mode) {
			return impl.ErrRange
		}
		if !isIdByWords("b", file.Id) {
			return impl.ErrForm
		}
		if i > 0 && !isAbove(file.Path, files[i-1].Path) {
			return impl.ErrForm
		}
	}
	for _, file := range files {
		for _, other := range files {
			if inDirByWords(file.Path, other.Path) {
				return impl.ErrTaken
			}
		}
	}
	return impl.OK
}

func writeByWords(store []impl.Object, files []impl.File) impl.StoreResult {
	if code := storeFaultByWords(store); code != impl.OK {
		return impl.StoreResult{Code: code}
	}
	if code := filesFaultByWords(files); code != impl.OK {
		return impl.StoreResult{Code: code}
	}
	return putDirByWords(store, files, "")
}

// putDirByWords puts the tree of a directory, whose name ends with a slash (the whole one: is empty), behind those within it.
func putDirByWords(store []impl.Object, files []impl.File, dir string) impl.StoreResult {
	within := map[string]impl.TreeEntry{}
	for _, file := range files {
		if rest, ok := strings.CutPrefix(file.Path, dir); ok {
			name := strings.Split(rest, "/")[0]
			within[name] = impl.TreeEntry{Name: name, Mode: impl.ModeTree}
			if name == rest {
				within[name] = impl.TreeEntry{Name: name, Mode: file.Mode, Id: file.Id}
			}
		}
	}
	var list []impl.TreeEntry
	for _, name := range slices.Sorted(maps.Keys(within)) {
		entry := within[name]
		if entry.Mode == impl.ModeTree {
			r := putDirByWords(store, files, dir+name+"/")
			if r.Code != impl.OK {
				return r
			}
			store, entry.Id = r.Store, r.Id
		}
		list = append(list, entry)
	}
	return putByWords(store, impl.KindTree, treeTextByWords(list))
}

// readByWords keeps a list of what is still to be read, with all names ahead of it, the next one last.
func readByWords(store []impl.Object, tree string) impl.FilesResult {
	if code := storeFaultByWords(store); code != impl.OK {
		return impl.FilesResult{Code: code}
	}
	type todo struct {
		names []string
		mode  int64
		id    string
	}
	var files []impl.File
	gone := 0
	for left := []todo{{nil, impl.ModeTree, tree}}; len(left) > 0; {
		next := left[len(left)-1]
		left = left[:len(left)-1]
		if len(next.names) > maxParts {
			return impl.FilesResult{Code: impl.ErrMany}
		}
		if next.mode != impl.ModeTree {
			files = append(files, impl.File{Path: strings.Join(next.names, "/"), Mode: next.mode, Id: next.id})
			continue
		}
		if gone++; gone > maxTrees {
			return impl.FilesResult{Code: impl.ErrMany}
		}
		at := slices.IndexFunc(store, func(object impl.Object) bool { return object.Kind == impl.KindTree && object.Id == next.id })
		if at < 0 {
			return impl.FilesResult{Code: impl.ErrNone}
		}
		read := decodeTreeByForm(store[at].Data)
		if read.Code != impl.OK {
			return impl.FilesResult{Code: impl.ErrText}
		}
		for _, entry := range slices.Backward(read.Entries) {
			left = append(left, todo{append(slices.Clone(next.names), entry.Name), entry.Mode, entry.Id})
		}
	}
	if len(files) > maxFiles {
		return impl.FilesResult{Code: impl.ErrMany}
	}
	slices.SortFunc(files, func(a impl.File, b impl.File) int { return strings.Compare(a.Path, b.Path) })
	return impl.FilesResult{Files: files}
}

// byPaths: the files as a map, so that none is the zero file.
func byPaths(files []impl.File) map[string]impl.File {
	all := map[string]impl.File{}
	for _, file := range files {
		all[file.Path] = file
	}
	return all
}

func diffByWords(a []impl.File, b []impl.File) impl.DeltasResult {
	for _, files := range [][]impl.File{a, b} {
		if code := filesFaultByWords(files); code != impl.OK {
			return impl.DeltasResult{Code: code}
		}
	}
	inA, inB := byPaths(a), byPaths(b)
	paths := byPaths(slices.Concat(a, b))
	var deltas []impl.Delta
	for _, path := range slices.Sorted(maps.Keys(paths)) {
		if inA[path] != inB[path] {
			deltas = append(deltas, impl.Delta{Path: path, Old: inA[path], New: inB[path]})
		}
	}
	return impl.DeltasResult{Deltas: deltas}
}

func applyByWords(files []impl.File, deltas []impl.Delta) impl.FilesResult {
	if code := filesFaultByWords(files); code != impl.OK {
		return impl.FilesResult{Code: code}
	}
	held, none := byPaths(files), impl.File{}
	made := maps.Clone(held)
	for i, d := range deltas {
		if i > 0 && !isAbove(d.Path, deltas[i-1].Path) || d.Old == d.New {
			return impl.FilesResult{Code: impl.ErrForm}
		}
		for _, file := range []impl.File{d.Old, d.New} {
			if file != none && file.Path != d.Path {
				return impl.FilesResult{Code: impl.ErrForm}
			}
		}
		if held[d.Path] != d.Old {
			return impl.FilesResult{Code: impl.ErrClash}
		}
		delete(made, d.Path)
		if d.New != none {
			made[d.Path] = d.New
		}
	}
	var all []impl.File
	for _, path := range slices.Sorted(maps.Keys(made)) {
		all = append(all, made[path])
	}
	if code := filesFaultByWords(all); code != impl.OK {
		return impl.FilesResult{Code: code}
	}
	return impl.FilesResult{Files: all}
}

func sameFilesResult(a impl.FilesResult, b impl.FilesResult) bool {
	return a.Code == b.Code && slices.Equal(a.Files, b.Files)
}

func sameDeltasResult(a impl.DeltasResult, b impl.DeltasResult) bool {
	return a.Code == b.Code && slices.Equal(a.Deltas, b.Deltas)
}

func wantWritten(t *testing.T, name string, store []impl.Object, files []impl.File) impl.StoreResult {
	t.Helper()
	got, want := impl.WriteFiles(store, files), writeByWords(store, files)
	if !sameStoreResult(got, want) {
		t.Errorf("%s: WriteFiles = %#v, want %#v", name, got, want)
	}
	return got
}

func wantRead(t *testing.T, name string, store []impl.Object, tree string) impl.FilesResult {
	t.Helper()
	got, want := impl.ReadFiles(store, tree), readByWords(store, tree)
	if !sameFilesResult(got, want) {
		t.Errorf("%s: ReadFiles = %#v, want %#v", name, got, want)
	}
	return got
}

// wantReadBack asks promise 8 of files that are written, and answers the code of that.
func wantReadBack(t *testing.T, name string, store []impl.Object, files []impl.File) int64 {
	t.Helper()
	written := wantWritten(t, name, store, files)
	if written.Code != impl.OK {
		return written.Code
	}
	if r := impl.ReadFiles(written.Store, written.Id); !sameFilesResult(r, impl.FilesResult{Files: files}) {
		t.Errorf("%s: what is read back is %#v, want %#v", name, r, files)
	}
	wantRead(t, name, written.Store, written.Id)
	for _, object := range store {
		if impl.GetObject(written.Store, object.Kind, object.Id).Object != object {
			t.Errorf("%s: %q is lost", name, object.Id)
		}
	}
	if again := impl.WriteFiles(written.Store, files); !sameStoreResult(again, written) {
		t.Errorf("%s: written twice, it is %#v, want %#v", name, again, written)
	}
	return impl.OK
}

// wantDiffed asks promise 8 of two lists of files.
func wantDiffed(t *testing.T, name string, a []impl.File, b []impl.File) impl.DeltasResult {
	t.Helper()
	got, want := impl.DiffFiles(a, b), diffByWords(a, b)
	if !sameDeltasResult(got, want) {
		t.Errorf("%s: DiffFiles = %#v, want %#v", name, got, want)
	}
	if got.Code != impl.OK {
		return got
	}
	if r := impl.ApplyDeltas(a, got.Deltas); !sameFilesResult(r, impl.FilesResult{Files: b}) {
		t.Errorf("%s: what differs makes %#v, want %#v", name, r, b)
	}
	return got
}

func wantApplied(t *testing.T, name string, files []impl.File, deltas []impl.Delta) impl.FilesResult {
	t.Helper()
	got, want := impl.ApplyDeltas(files, deltas), applyByWords(files, deltas)
	if !sameFilesResult(got, want) {
		t.Errorf("%s: ApplyDeltas = %#v, want %#v", name, got, want)
	}
	return got
}

// filesAt: files of these paths, in their order, with modes and ids that differ from one to the next.
func filesAt(paths ...string) []impl.File {
	var files []impl.File
	for i, path := range paths {
		files = append(files, impl.File{Path: path, Mode: int64(i%2 + 1), Id: fmt.Sprintf("b%04x", (i*1097+1)%65521)})
	}
	return files
}

// fullFiles: so many files, with so many names in each path.
func fullFiles(count int, names int) []impl.File {
	var paths []string
	for i := range count {
		ahead := strings.Repeat("d"+strconv.Itoa(i%3)+"/", names-1)
		paths = append(paths, ahead+"f"+strconv.Itoa(i))
	}
	slices.Sort(paths)
	return filesAt(paths...)
}

// partingNames: names of which one is the beginning of another, with bytes behind it that stand ahead of a slash, and behind it.
var partingNames = []string{"a", "a-", "a-b", "a.", "a.b", "a0", "a9", "a_", "ab", "aa", "-", ".a", "_", "0", "z", "a-a", "aaaaaaaaaaaa"}

// randomFiles: files without a fault, of at most so many.
func randomFiles(random *rand.Rand, most int, names []string) []impl.File {
	held := map[string]impl.File{}
	for range random.Intn(most + 1) {
		path := names[random.Intn(len(names))]
		for range random.Intn(maxParts) {
			path += "/" + names[random.Intn(len(names))]
		}
		fits := true
		for other := range held {
			fits = fits && !inDirByWords(path, other) && !inDirByWords(other, path)
		}
		if fits {
			held[path] = impl.File{Path: path, Mode: int64(random.Intn(2) + 1), Id: fmt.Sprintf("b%04x", random.Intn(5))}
		}
	}
	var files []impl.File
	for _, path := range slices.Sorted(maps.Keys(held)) {
		files = append(files, held[path])
	}
	return files
}

func TestPathFault(t *testing.T) {
	want := func(path string) {
		t.Helper()
		if got := impl.PathFault(path); got != pathFaultByWords(path) {
			t.Errorf("PathFault(%q) = %d", path, got)
		}
	}
	for _, path := range []string{"a", "a/b", "a/b/c", "a/b/c/d", "-", "a.b/_-", ".a", "...", ".../..a", "0/1/2/3", strings.Repeat("a", 12), strings.Repeat("z", 12) + strings.Repeat("/"+strings.Repeat("9", 12), 3)} {
		if got := impl.PathFault(path); got != impl.OK {
			t.Errorf("PathFault(%q) = %d", path, got)
		}
	}
	for _, path := range []string{
		"", "/", "//", "/a", "a/", "a//b", "//a", "a//", "/a/b", "a/b/", "a/b/c//d", "a/b/c/", "a/b/c/d/", "/a/b/c/d", "a/b/c/d/e", "a/b/c/d/e/f", strings.Repeat("a/", 100000) + "a", strings.Repeat("/", 100000), strings.Repeat("a", 13), "a/" + strings.Repeat("a", 13),
		".", "..", "a/.", "./a", "a/../b", "../a", "a/..", "A", "a/B", "a b", "a/b ", " a", "a\n", "a\\b", "a\x00", "a/\xff", "a/\u00e9", "a:b", "a,b", "a\u2044b",
	} {
		if got := impl.PathFault(path); got != impl.ErrForm {
			t.Errorf("PathFault(%q) = %d, want ErrForm", path, got)
		}
	}
	for _, parts := range listsOver([]string{"a", "/", "."}, 9) {
		want(strings.Join(parts, ""))
	}
	for _, path := range []string{"a", "ab/cd", "a/b/c/d"} {
		for _, text := range spoilt(path, spoilers) {
			want(text)
		}
	}
}

func TestInDir(t *testing.T) {
	for _, c := range []struct {
		path, dir string
		want      bool
	}{
		{"a/b", "a", true}, {"a/b/c", "a", true}, {"a/b/c", "a/b", true}, {"a/b", "a/b", false}, {"a", "a", false}, {"a/", "a", false}, {"a//", "a", true}, {"ab", "a", false}, {"ab/c", "a", false}, {"a-/b", "a", false}, {"a", "a/b", false},
		{"a/b", "b", false}, {"b/a/c", "a", false}, {"", "", false}, {"/", "", false}, {"/a", "", true}, {"a", "", false}, {"//", "", true}, {"a/b", "a/", false}, {"a//b", "a/", true}, {"a/b", "A", false}, {"a\x00/b", "a\x00", true}, {"a\\b", "a", false},
		{strings.Repeat("a/", 100000), strings.Repeat("a/", 99998) + "a", true}, {strings.Repeat("a/", 100000), strings.Repeat("a/", 99999) + "a", false},
	} {
		if got := impl.InDir(c.path, c.dir); got != c.want {
			t.Errorf("InDir(%.20q, %.20q) = %v", c.path, c.dir, got)
		}
	}
	texts := listsOver([]string{"a", "/", "-"}, 4)
	for _, path := range texts {
		for _, dir := range texts {
			one, other := strings.Join(path, ""), strings.Join(dir, "")
			if got := impl.InDir(one, other); got != inDirByWords(one, other) {
				t.Errorf("InDir(%q, %q) = %v", one, other, got)
			}
		}
	}
}

// faultyFiles: lists of files with the code of each.
func faultyFiles() map[string]struct {
	files []impl.File
	code  int64
} {
	type faulty = struct {
		files []impl.File
		code  int64
	}
	form, many, wrong, taken := int64(impl.ErrForm), int64(impl.ErrMany), int64(impl.ErrRange), int64(impl.ErrTaken)
	with := func(path string, mode int64, id string) impl.File { return impl.File{Path: path, Mode: mode, Id: id} }
	a, b := with("a", 1, "b0001"), with("b", 2, "b0002")
	lists := map[string]faulty{
		"a zero file":                            {make([]impl.File, 1), form},
		"too many":                               {fullFiles(maxFiles+1, 2), many},
		"too many, all wrong":                    {make([]impl.File, maxFiles+1), many},
		"far too many":                           {make([]impl.File, 100000), many},
		"as many as may be, the last wrong":      {append(fullFiles(maxFiles-1, 1), with("z", 3, "b0001")), wrong},
		"as many as may be, the last not new":    {append(fullFiles(maxFiles-1, 1), fullFiles(maxFiles-1, 1)[maxFiles-2]), form},
		"as many as may be, the first wrong":     {append([]impl.File{with("a", 0, "b0001")}, fullFiles(maxFiles-1, 1)...), wrong},
		"a path of five names":                   {[]impl.File{with("a/b/c/d/e", 1, "b0001")}, form},
		"a wrong path, mode and id":              {[]impl.File{with("a/", 0, "x")}, form},
		"a wrong mode and id":                    {[]impl.File{with("a", 0, "x")}, wrong},
		"a wrong mode, and not above":            {[]impl.File{b, with("a", 3, "b0001")}, wrong},
		"a wrong id, and not above":              {[]impl.File{b, with("a", 1, "t0001")}, form},
		"one twice":                              {[]impl.File{a, a}, form},
		"one path twice":                         {[]impl.File{a, with("a", 2, "b0005")}, form},
		"not rising":                             {[]impl.File{b, a}, form},
		"not rising by its bytes":                {filesAt("a/b", "a-b"), form},
		"rising by names and not by bytes":       {filesAt("a/x", "a.x"), form},
		"not rising ahead of a wrong mode":       {[]impl.File{b, a, with("c", 9, "b0001")}, form},
		"a wrong mode ahead of one not above":    {[]impl.File{with("c", 9, "b0001"), b, a}, wrong},
		"a wrong path behind a wrong mode":       {[]impl.File{with("a", 9, "b0001"), with("/", 1, "b0001")}, wrong},
		"within":                                 {filesAt("a", "a/b"), taken},
		"far within":                             {filesAt("a", "a/b/c/d"), taken},
		"within one that is within":              {filesAt("a/b", "a/b/c"), taken},
		"within, one between":                    {filesAt("a", "a-", "a/b"), taken},
		"within, many between":                   {filesAt("a", "a-", "a-/b", "a.", "a.b", "a/b"), taken},
		"within, some behind":                    {filesAt("a", "a-", "a/b", "a0", "b", "c/d"), taken},
		"within, the last one":                   {filesAt("a", "b", "c/d", "c/d-", "c/d/e/f"), taken},
		"within, and a wrong mode behind":        {append(filesAt("a", "a/b"), with("b", 0, "b0001")), wrong},
		"within, and a wrong id behind":          {append(filesAt("a", "a/b"), with("b", 1, "c0001")), form},
		"within, and not rising behind":          {filesAt("a", "a/b", "a/a"), form},
		"as many as may be, the last one within": {append([]impl.File{a}, append(fullFiles(maxFiles-2, 1), with("f9/x", 1, "b0001"))...), taken},
	}
	for _, mode := range wrongModes {
		lists["mode "+strconv.FormatInt(mode, 10)] = faulty{[]impl.File{a, with("b", mode, "b0001")}, wrong}
	}
	lists["mode of a tree"] = faulty{[]impl.File{with("a", 3, "t0001")}, wrong}
	lists["mode of a tree, id of a blob"] = faulty{[]impl.File{with("a", 3, "b0001")}, wrong}
	for _, id := range slices.Concat(wrongIds, []string{"t0007", "c0007"}) {
		lists["id "+strconv.Quote(id)] = faulty{[]impl.File{a, with("b", 1, id)}, form}
	}
	return lists
}

func TestFilesWithAFault(t *testing.T) {
	good := filesAt("a", "b/c")
	full := fullStore(maxObjects, 3)
	for name, c := range faultyFiles() {
		if got := impl.FilesFault(c.files); got != c.code || got != filesFaultByWords(c.files) {
			t.Errorf("%.60s: FilesFault = %d, want %d", name, got, c.code)
		}
		for _, store := range [][]impl.Object{nil, full} {
			if r := impl.WriteFiles(store, c.files); !sameStoreResult(r, impl.StoreResult{Code: c.code}) {
				t.Errorf("%.60s: WriteFiles = %#v, want %d", name, r, c.code)
			}
		}
		for _, r := range []impl.DeltasResult{impl.DiffFiles(c.files, nil), impl.DiffFiles(nil, c.files), impl.DiffFiles(c.files, good), impl.DiffFiles(good, c.files), impl.DiffFiles(c.files, c.files)} {
			if !sameDeltasResult(r, impl.DeltasResult{Code: c.code}) {
				t.Errorf("%.60s: DiffFiles = %#v, want %d", name, r, c.code)
			}
		}
		for _, deltas := range [][]impl.Delta{nil, make([]impl.Delta, 1), {{Path: "a", Old: impl.File{Path: "a"}}}} {
			if r := impl.ApplyDeltas(c.files, deltas); !sameFilesResult(r, impl.FilesResult{Code: c.code}) {
				t.Errorf("%.60s: ApplyDeltas = %#v, want %d", name, r, c.code)
			}
		}
		for _, other := range faultyFiles() {
			if r := impl.DiffFiles(c.files, other.files); !sameDeltasResult(r, impl.DeltasResult{Code: c.code}) {
				t.Errorf("%.60s in a, another in b: DiffFiles = %#v, want %d", name, r, c.code)
			}
		}
	}
}

func TestFilesFaultOfEverySmallList(t *testing.T) {
	pool := append(filesAt("a", "a-", "a/b", "a/b/c", "a0", "b"), impl.File{Path: "a", Mode: 3, Id: "b0001"}, impl.File{Path: "a-", Mode: 1, Id: "t0001"}, impl.File{Path: "b/", Mode: 0, Id: "b0001"}, impl.File{Path: "c", Mode: 4, Id: ""})
	numbers := make([]string, len(pool))
	for i := range numbers {
		numbers[i] = strconv.Itoa(i)
	}
	seen := map[int64]int{}
	for _, places := range listsOver(numbers, 4) {
		var files []impl.File
		for _, place := range places {
			i, _ := strconv.Atoi(place)
			files = append(files, pool[i])
		}
		got := impl.FilesFault(files)
		if got != filesFaultByWords(files) {
			t.Errorf("FilesFault(%#v) = %d", files, got)
		}
		seen[got]++
	}
	for _, code := range []int64{impl.OK, impl.ErrForm, impl.ErrRange, impl.ErrTaken} {
		if seen[code] == 0 {
			t.Errorf("no list has the code %d", code)
		}
	}
}

func TestPromise8FilesAreReadBack(t *testing.T) {
	lists := map[string][]impl.File{
		"nil": nil, "none": {}, "one": filesAt("a"), "one of two names": filesAt("a/b"), "one of three": filesAt("a/b/c"), "one of four": filesAt("a/b/c/d"), "the longest": filesAt(strings.Repeat("z", 12) + strings.Repeat("/"+strings.Repeat("z", 12), 3)),
		"directories within one another": filesAt("a/a", "a/b/a", "a/b/b/a", "a/b/b/b", "a/c", "b", "c/d/e/f"),
		"two directories of the same":    {{Path: "a/x", Mode: 1, Id: "b0001"}, {Path: "b/x", Mode: 1, Id: "b0001"}},
		"a directory like the whole":     {{Path: "x/x", Mode: 1, Id: "b0001"}},
		"names part":                     filesAt("a-/b", "a-b", "a.", "a/b", "a0/b", "a_", "aa", "ab/c"),
		"names part within":              filesAt("d/a-/b", "d/a.b/c", "d/a/b", "d/a0", "d/a_/x", "d/ab/c"),
		"names part, far within":         filesAt("d/e/a-/b", "d/e/a.b", "d/e/a/b", "d/e/a0/x", "d/e/ab"),
	}
	for names := 1; names <= maxParts; names++ {
		lists[fmt.Sprintf("as many as may be, of %d names", names)] = fullFiles(maxFiles, names)
	}
	for _, one := range partingNames {
		for _, other := range partingNames {
			if one != other {
				paths := []string{one + "/x", other + "/x"}
				slices.Sort(paths)
				lists["two directories "+one+" "+other] = filesAt(paths...)
				paths = []string{"d/" + one, "d/" + other + "/x"}
				slices.Sort(paths)
				lists["a file and a directory "+one+" "+other] = filesAt(paths...)
			}
		}
	}
	stores := [][]impl.Object{nil, {objectOf(1, "a")}, {objectOf(2, "")}, fullStore(40, 5)}
	for name, files := range lists {
		if filesFaultByWords(files) != impl.OK {
			t.Fatalf("%s: these have a fault", name)
		}
		for _, store := range stores {
			if code := wantReadBack(t, name, store, files); code != impl.OK {
				t.Errorf("%s: %d", name, code)
			}
		}
	}
}

func TestPromise8EverySmallListIsReadBack(t *testing.T) {
	pool := filesAt("a", "a-", "a-/b", "a.b/c", "a/b", "a/b-/c", "a/b/c", "a/b/c/d", "a0/b", "ab")
	slices.SortFunc(pool, func(a impl.File, b impl.File) int { return strings.Compare(a.Path, b.Path) })
	codes := map[int64]int{}
	for set := range 1 << len(pool) {
		var files []impl.File
		for i, file := range pool {
			if set>>i&1 == 1 {
				files = append(files, file)
			}
		}
		codes[wantReadBack(t, fmt.Sprint(files), nil, files)]++
	}
	if codes[impl.OK] < 100 || codes[impl.ErrTaken] < 100 || len(codes) != 2 {
		t.Errorf("the lists do not reach all: %v", codes)
	}
}

func TestPromise8RandomFilesAreReadBack(t *testing.T) {
	random := rand.New(rand.NewSource(7))
	var store []impl.Object
	for round := range 120 {
		files := randomFiles(random, maxFiles, partingNames)
		wantReadBack(t, fmt.Sprintf("round %d", round), nil, files)
		// The same names again and again, so that trees are there already.
		few := randomFiles(random, 6, partingNames[:3])
		name := fmt.Sprintf("round %d, on what is there", round)
		if wantReadBack(t, name, store, few) == impl.OK {
			store = impl.WriteFiles(store, few).Store
		} else {
			store = store[:len(store)/2]
		}
	}
}

// treeTwin: other data with the digest of a tree's, that is not empty.
func treeTwin(data string) string {
	return string([]byte{data[0] - 1, data[1] + 131}) + data[2:]
}

func treeOf(entries ...impl.TreeEntry) impl.Object {
	return objectOf(impl.KindTree, treeTextByWords(entries))
}

var manyBlobs = sync.OnceValue(func() []impl.Object {
	return slices.DeleteFunc(fullStore(3*maxObjects+30, 11), func(object impl.Object) bool { return object.Kind != impl.KindBlob })
})

// withOthers fills a store up with blobs, so that it has so many objects.
func withOthers(count int, objects ...impl.Object) []impl.Object {
	return storeOf(slices.Concat(objects, manyBlobs()[:count-len(objects)])...)
}

// storeOnce: a store with each of the objects once.
func storeOnce(objects ...impl.Object) []impl.Object {
	return slices.Compact(storeOf(objects...))
}

// clashWith: what refuses a tree.
func clashWith(tree impl.Object) impl.Object {
	return objectOf(impl.KindTree, treeTwin(tree.Data))
}

func TestTreesArePutInOrder(t *testing.T) {
	// Each file has an id of its own, so that no two trees are the same.
	leaf := func(file impl.File) impl.Object {
		name := file.Path[strings.LastIndex(file.Path, "/")+1:]
		return treeOf(impl.TreeEntry{Name: name, Mode: file.Mode, Id: file.Id})
	}
	for _, c := range []struct {
		name         string
		files        []impl.File
		first, later int
	}{
		{"by names", filesAt("a/x", "b/x"), 0, 1},
		{"by names, though the paths go otherwise", filesAt("a-/x", "a/x"), 1, 0},
		{"by names with a point, though the paths go otherwise", filesAt("a.b/x", "a/x"), 1, 0},
		{"by names with a digit", filesAt("a/x", "a0/x"), 0, 1},
		{"by names within", filesAt("d/a-/x", "d/a/x"), 1, 0},
		{"what is within the first one ahead of the next one", filesAt("a/b/c/x", "b/x"), 0, 1},
		{"a deep one behind a flat one", filesAt("a/x", "b/c/d/x"), 0, 1},
	} {
		first, later := leaf(c.files[c.first]), leaf(c.files[c.later])
		if first.Id == later.Id {
			t.Fatalf("%s: two trees of one name", c.name)
		}
		// Of the deep ones the trees around take places too.
		between := max(0, strings.Count(c.files[c.first].Path, "/")-strings.Count(c.files[c.later].Path, "/"))
		for _, s := range []struct {
			name  string
			store []impl.Object
			code  int64
		}{
			{"the later one clashes, no place for the first", withOthers(maxObjects, clashWith(later)), impl.ErrMany},
			{"the first one clashes, no place for the later one", withOthers(maxObjects, clashWith(first)), impl.ErrClash},
			{"the later one clashes, a place for the first", withOthers(maxObjects-1-between, clashWith(later)), impl.ErrClash},
			{"the first one is there, the later one clashes", withOthers(maxObjects-between, first, clashWith(later)), impl.ErrClash},
			{"both are there, no place for the whole", withOthers(maxObjects, first, later), impl.ErrMany},
			{"no place", withOthers(maxObjects), impl.ErrMany},
		} {
			if r := wantWritten(t, c.name+", "+s.name, s.store, c.files); !sameStoreResult(r, impl.StoreResult{Code: s.code}) {
				t.Errorf("%s: %s: %d, want %d", c.name, s.name, r.Code, s.code)
			}
		}
	}
}

func TestTreesArePutBehindThoseWithin(t *testing.T) {
	files := []impl.File{{Path: "d/e/x", Mode: 1, Id: "b03f6"}}
	inner := treeOf(fileOf("x"))
	middle := treeOf(impl.TreeEntry{Name: "e", Mode: 3, Id: inner.Id})
	whole := treeOf(impl.TreeEntry{Name: "d", Mode: 3, Id: middle.Id})
	trees := []impl.Object{inner, middle, whole}
	if r := impl.WriteFiles(nil, files); !sameStoreResult(r, impl.StoreResult{Id: whole.Id, Store: storeOf(trees...)}) {
		t.Errorf("WriteFiles = %#v", r)
	}
	for clashing := range trees {
		for places := range 4 {
			// As many trees as there are places are put; then one clashes, or finds no place.
			want := int64(impl.ErrMany)
			if places >= clashing {
				want = impl.ErrClash
			}
			name := fmt.Sprintf("tree %d clashes, %d places", clashing, places)
			if r := wantWritten(t, name, withOthers(maxObjects-places, clashWith(trees[clashing])), files); !sameStoreResult(r, impl.StoreResult{Code: want}) {
				t.Errorf("%s: %d, want %d", name, r.Code, want)
			}
		}
	}
	for places := range 4 {
		r := wantWritten(t, "no clash", withOthers(maxObjects-places), files)
		if (r.Code == impl.OK) != (places == 3) || places < 3 && r.Code != impl.ErrMany {
			t.Errorf("%d places: %d", places, r.Code)
		}
		wantReadBack(t, "no clash", withOthers(maxObjects-places), files)
	}
}

func TestTreesThatAreThereAreNotPutTwice(t *testing.T) {
	same := []impl.File{{Path: "a/x", Mode: 1, Id: "b03f6"}, {Path: "b/x", Mode: 1, Id: "b03f6"}, {Path: "c/d/x", Mode: 1, Id: "b03f6"}, {Path: "x", Mode: 1, Id: "b03f6"}}
	if r := wantWritten(t, "three of the same", nil, same); len(r.Store) != 3 {
		t.Errorf("three of the same: %#v", r)
	}
	for places := range 4 {
		if code := wantReadBack(t, "three of the same", withOthers(maxObjects-places), same); (code == impl.OK) != (places == 3) {
			t.Errorf("three of the same, %d places: %d", places, code)
		}
	}
	full := withOthers(maxObjects, impl.WriteFiles(nil, same).Store...)
	if r := wantWritten(t, "all is there", full, same); r.Code != impl.OK || !slices.Equal(r.Store, full) {
		t.Errorf("all is there: %d", r.Code)
	}
	empty := objectOf(impl.KindTree, "")
	if r := impl.WriteFiles([]impl.Object{empty}, nil); !sameStoreResult(r, impl.StoreResult{Id: "t0007", Store: []impl.Object{empty}}) {
		t.Errorf("no file: %#v", r)
	}
	if r := impl.WriteFiles(nil, nil); !sameStoreResult(r, impl.StoreResult{Id: "t0007", Store: []impl.Object{empty}}) {
		t.Errorf("no file, no object: %#v", r)
	}
	if r := wantWritten(t, "no file, no place", withOthers(maxObjects), nil); r.Code != impl.ErrMany {
		t.Errorf("no file, no place: %d", r.Code)
	}
	// A blob, or a commit, of that data is no tree.
	if r := wantWritten(t, "other kinds", storeOf(objectOf(1, ""), objectOf(3, "")), nil); len(r.Store) != 3 {
		t.Errorf("other kinds: %#v", r)
	}
}

func TestWriteFilesIntoRandomStores(t *testing.T) {
	random := rand.New(rand.NewSource(8))
	codes := map[int64]int{}
	for round := range 300 {
		files := randomFiles(random, 8, partingNames[:6])
		var objects []impl.Object
		for _, tree := range impl.WriteFiles(nil, files).Store {
			switch choice := random.Intn(12); {
			case choice < 3:
				objects = append(objects, tree)
			case choice == 3 && tree.Data != "":
				objects = append(objects, clashWith(tree))
			}
		}
		places := random.Intn(8)
		codes[wantReadBack(t, fmt.Sprintf("round %d", round), withOthers(maxObjects-places, objects...), files)]++
	}
	if codes[impl.OK] < 50 || codes[impl.ErrClash] < 50 || codes[impl.ErrMany] < 50 || len(codes) != 3 {
		t.Errorf("the stores do not reach all: %v", codes)
	}
}

// subtree: an entry of a tree.
func subtree(name string, tree impl.Object) impl.TreeEntry {
	return impl.TreeEntry{Name: name, Mode: impl.ModeTree, Id: tree.Id}
}

// nested: trees around tree, each with it under one of the names, the last name outermost; the whole one comes last.
func nested(tree impl.Object, names ...string) []impl.Object {
	trees := []impl.Object{tree}
	for _, name := range names {
		tree = treeOf(subtree(name, tree))
		trees = append(trees, tree)
	}
	return trees
}

func wholeOf(trees []impl.Object) string {
	return trees[len(trees)-1].Id
}

func wantReadCode(t *testing.T, name string, store []impl.Object, tree string, code int64) {
	t.Helper()
	r := wantRead(t, name, store, tree)
	if r.Code != code || code != impl.OK && r.Files != nil {
		t.Errorf("%s: ReadFiles = %#v, want %d", name, r, code)
	}
}

func TestReadFilesOfNoTree(t *testing.T) {
	a, leaf := objectOf(1, "a"), treeOf(fileOf("x"))
	store := storeOf(a, objectOf(3, "a"), leaf, objectOf(1, leaf.Data), objectOf(3, leaf.Data))
	for _, id := range slices.Concat(wrongIds, []string{"b03f6", "c03f6", "t03f6", "t0007", objectOf(1, leaf.Data).Id, objectOf(3, leaf.Data).Id, leaf.Id + " ", leaf.Id[:4], strings.ToUpper(leaf.Id)}) {
		wantReadCode(t, "id "+id, store, id, impl.ErrNone)
		wantReadCode(t, "id "+id+" and nothing", nil, id, impl.ErrNone)
	}
	wantReadCode(t, "it is there", store, leaf.Id, impl.OK)
	for depth := range maxParts {
		names := []string{"a", "b", "c", "d"}[:depth+1]
		trees := nested(leaf, names...)
		wantReadCode(t, fmt.Sprintf("one within is not there, %d deep", depth+1), storeOf(trees[1:]...), wholeOf(trees), impl.ErrNone)
	}
}

func TestReadFilesOfWhatCannotBeRead(t *testing.T) {
	for _, data := range []string{"a", "\n", "file b03f6 x", "file b03f6 x\nfile b03f6 x\n", "file t03f6 x\n", "tree b03f6 x\n", "file b03f6 b\nfile b03f6 a\n", "file b03f6 .\n", "file b03f6 a/b\n", "\x00", strings.Repeat("file b03f6 aaaaaaaaaaaa\n", 83)} {
		tree := objectOf(impl.KindTree, data)
		wantReadCode(t, fmt.Sprintf("%.30q", data), []impl.Object{tree}, tree.Id, impl.ErrText)
		for depth := range maxParts {
			trees := nested(tree, []string{"a", "b", "c", "d"}[:depth+1]...)
			wantReadCode(t, fmt.Sprintf("%.30q, %d deep", data, depth+1), storeOf(trees...), wholeOf(trees), impl.ErrText)
		}
	}
	// What is not gone into is not asked.
	bad, good := objectOf(impl.KindTree, "bad"), treeOf(fileOf("x"))
	wantReadCode(t, "beside", storeOf(bad, good), good.Id, impl.OK)
}

func TestReadFilesTellsWhatIsMetFirst(t *testing.T) {
	bad, none := objectOf(impl.KindTree, "bad"), objectOf(impl.KindTree, "none")
	leaf := treeOf(fileOf("x"))
	deep := nested(leaf, "d", "c", "b", "a")
	for _, c := range []struct {
		name    string
		entries []impl.TreeEntry
		code    int64
	}{
		{"not there, then unreadable", []impl.TreeEntry{subtree("a", none), subtree("b", bad)}, impl.ErrNone},
		{"unreadable, then not there", []impl.TreeEntry{subtree("a", bad), subtree("b", none)}, impl.ErrText},
		{"too deep, then not there", []impl.TreeEntry{subtree("a", deep[4]), subtree("b", none)}, impl.ErrMany},
		{"not there, then too deep", []impl.TreeEntry{subtree("a", none), subtree("b", deep[4])}, impl.ErrNone},
		{"unreadable, then too deep", []impl.TreeEntry{subtree("a", bad), subtree("b", deep[4])}, impl.ErrText},
		{"files, then not there", []impl.TreeEntry{fileOf("a"), subtree("b", none)}, impl.ErrNone},
		{"not there, then files", []impl.TreeEntry{subtree("a", none), fileOf("b")}, impl.ErrNone},
		{"good, then unreadable", []impl.TreeEntry{subtree("a", leaf), subtree("b", leaf), subtree("c", bad)}, impl.ErrText},
		{"by names", []impl.TreeEntry{subtree("a", bad), subtree("a-", none)}, impl.ErrText},
		{"by names, the other way round", []impl.TreeEntry{subtree("a", none), subtree("a-", bad)}, impl.ErrNone},
		{"deep down, then the next one", []impl.TreeEntry{subtree("a", treeOf(subtree("a", bad))), subtree("b", none)}, impl.ErrText},
		{"too many files, then unreadable", slices.Concat(entriesOf(maxFiles+1, 3), []impl.TreeEntry{subtree("z", bad)}), impl.ErrText},
		{"too many files, then not there", slices.Concat(entriesOf(maxFiles+1, 3), []impl.TreeEntry{subtree("z", none)}), impl.ErrNone},
		{"too many files alone", entriesOf(maxFiles+1, 3), impl.ErrMany},
	} {
		if treeFaultByWords(c.entries) != impl.OK {
			t.Fatalf("%s: this is no tree", c.name)
		}
		whole := treeOf(c.entries...)
		wantReadCode(t, c.name, storeOf(append(slices.Clone(deep), bad, whole, treeOf(subtree("a", bad)))...), whole.Id, c.code)
	}
}

func TestATreeThatIsGoneIntoTwice(t *testing.T) {
	leaf := treeOf(fileOf("x"), impl.TreeEntry{Name: "y", Mode: 2, Id: "b0001"})
	middle := treeOf(subtree("a", leaf), subtree("b", leaf))
	whole := treeOf(subtree("a", leaf), subtree("a-", middle), subtree("c", middle))
	r := wantRead(t, "gone into five times", storeOf(leaf, middle, whole), whole.Id)
	var paths []string
	for _, file := range r.Files {
		paths = append(paths, file.Path)
	}
	if want := strings.Fields("a-/a/x a-/a/y a-/b/x a-/b/y a/x a/y c/a/x c/a/y c/b/x c/b/y"); !slices.Equal(paths, want) || r.Code != impl.OK {
		t.Errorf("gone into five times: %q, want %q", paths, want)
	}
	for _, file := range r.Files {
		if strings.HasSuffix(file.Path, "x") != (file == impl.File{Path: file.Path, Mode: 1, Id: "b03f6"}) || strings.HasSuffix(file.Path, "y") != (file == impl.File{Path: file.Path, Mode: 2, Id: "b0001"}) {
			t.Errorf("another file: %#v", file)
		}
	}
}

func TestTreesWithinThemselves(t *testing.T) {
	// Found by trial: the ids are such that each tree is in the ring.
	rings := [][]string{
		{"tree t2ecc aa\n"}, {"tree t1012 ac\n"}, {"file b03f6 a\ntree t8058 aa\n"}, {"file b03f6 a\ntree tf138 ac\n"},
		{"tree t8757 n\n", "tree t7078 a\n"}, {"tree tfdf9 n\n", "tree t1d92 b\n"}, {"tree tfa16 p\n", "tree tba5f q\n", "tree tac1d r\n"},
	}
	for _, ring := range rings {
		var store []impl.Object
		for i, data := range ring {
			tree := objectOf(impl.KindTree, data)
			if !strings.Contains(ring[(i+1)%len(ring)], "tree "+tree.Id+" ") {
				t.Fatalf("%q is not in its ring", data)
			}
			store = append(store, tree)
		}
		for _, tree := range store {
			wantReadCode(t, "ring "+tree.Data, storeOf(store...), tree.Id, impl.ErrMany)
			around := treeOf(fileOf("a"), subtree("b", tree))
			wantReadCode(t, "around the ring "+tree.Data, storeOf(append(slices.Clone(store), around)...), around.Id, impl.ErrMany)
			// What is met ahead of the ring is told.
			none := treeOf(subtree("a", objectOf(impl.KindTree, "none")), subtree("b", tree))
			wantReadCode(t, "none ahead of the ring "+tree.Data, storeOf(append(slices.Clone(store), none)...), none.Id, impl.ErrNone)
		}
	}
}

// manyTrees: a tree with so many others to be gone into (it counted), whose last is the tree given; 1 to 201.
func manyTrees(count int, last impl.Object) []impl.Object {
	empty := objectOf(impl.KindTree, "")
	pair := treeOf(subtree("a", empty))
	var entries []impl.TreeEntry
	left := count - 2
	for i := 0; left > 0; i++ {
		name := fmt.Sprintf("n%03d", i)
		if left%2 == 1 {
			entries = append(entries, subtree(name, empty))
			left--
			continue
		}
		entries = append(entries, subtree(name, pair))
		left -= 2
	}
	if count > 1 {
		entries = append(entries, subtree("z", last))
	}
	return []impl.Object{empty, pair, treeOf(entries...)}
}

func TestReadFilesOfAsManyTreesAsMayBe(t *testing.T) {
	leaf, bad, none, empty := treeOf(fileOf("x")), objectOf(impl.KindTree, "bad"), objectOf(impl.KindTree, "none"), objectOf(impl.KindTree, "")
	for count := 1; count <= maxTrees+1; count++ {
		for _, c := range []struct {
			name string
			last impl.Object
			code int64
		}{{"a leaf", leaf, impl.OK}, {"unreadable", bad, impl.ErrText}, {"not there", none, impl.ErrNone}, {"empty", empty, impl.OK}} {
			want := c.code
			if count > maxTrees {
				want = impl.ErrMany
			}
			if count == 1 {
				want = impl.OK
			}
			trees := manyTrees(count, c.last)
			store := storeOnce(append(slices.Clone(trees), leaf, bad)...)
			wantReadCode(t, fmt.Sprintf("%d trees, the last is %s", count, c.name), store, wholeOf(trees), want)
		}
	}
	// Those in the midst of a path are counted too, each as often as it is gone into.
	three := nested(empty, "b", "a")
	for more := range 4 {
		var entries []impl.TreeEntry
		for i := range 66 {
			entries = append(entries, subtree(fmt.Sprintf("n%03d", i), three[2]))
		}
		for i := range more {
			entries = append(entries, subtree("z"+strconv.Itoa(i), empty))
		}
		want := int64(impl.OK)
		if 1+66*3+more > maxTrees {
			want = impl.ErrMany
		}
		whole := treeOf(entries...)
		wantReadCode(t, fmt.Sprintf("199 and %d trees", more), storeOf(append(slices.Clone(three), whole)...), whole.Id, want)
	}
}

func TestReadFilesOfAsManyNamesAsMayBe(t *testing.T) {
	leaf, bad, empty := treeOf(fileOf("x")), objectOf(impl.KindTree, "bad"), objectOf(impl.KindTree, "")
	names := []string{"d", "c", "b", "a"}
	for _, c := range []struct {
		name   string
		inmost impl.Object
		around int
		code   int64
	}{
		{"a path of one name", leaf, 0, impl.OK},
		{"a path of two", leaf, 1, impl.OK},
		{"a path of four", leaf, 3, impl.OK},
		{"a path of five", leaf, 4, impl.ErrMany},
		{"no path, and a tree of three names", empty, 3, impl.OK},
		{"no path, and a tree of four names", empty, 4, impl.OK},
		{"a tree of four names that cannot be read", bad, 4, impl.ErrText},
		{"a tree of five names that is not there", treeOf(subtree("e", objectOf(impl.KindTree, "none"))), 4, impl.ErrMany},
		{"a tree of five names that cannot be read", treeOf(subtree("e", bad)), 4, impl.ErrMany},
		{"a tree of five names that is empty", treeOf(subtree("e", empty)), 4, impl.ErrMany},
		{"a tree of four names that is not there", treeOf(subtree("e", objectOf(impl.KindTree, "none"))), 3, impl.ErrNone},
		{"a file of five names, then what is not there", treeOf(fileOf("e"), subtree("f", objectOf(impl.KindTree, "none"))), 4, impl.ErrMany},
	} {
		trees := nested(c.inmost, names[:c.around]...)
		wantReadCode(t, c.name, storeOnce(append(slices.Clone(trees), bad, empty)...), wholeOf(trees), c.code)
	}
	if r := impl.ReadFiles(storeOf(nested(leaf, "d", "c", "b")...), wholeOf(nested(leaf, "d", "c", "b"))); !sameFilesResult(r, impl.FilesResult{Files: []impl.File{{Path: "b/c/d/x", Mode: 1, Id: "b03f6"}}}) {
		t.Errorf("a path of four names: %#v", r)
	}
}

func TestReadFilesOfAsManyFilesAsMayBe(t *testing.T) {
	for count := maxFiles - 1; count <= maxFiles+2; count++ {
		want := int64(impl.OK)
		if count > maxFiles {
			want = impl.ErrMany
		}
		flat := treeOf(entriesOf(count, 3)...)
		wantReadCode(t, fmt.Sprintf("%d files", count), []impl.Object{flat}, flat.Id, want)
		half := treeOf(entriesOf(30, 3)...)
		rest := treeOf(entriesOf(count-30, 4)...)
		whole := treeOf(subtree("a", half), subtree("b", rest))
		wantReadCode(t, fmt.Sprintf("%d files in two trees", count), storeOf(half, rest, whole), whole.Id, want)
	}
	// One hundred trees of as many files each: all are read ahead of the code.
	wide := treeOf(entriesOf(maxLines, 3)...)
	var entries []impl.TreeEntry
	for i := range maxLines - 1 {
		entries = append(entries, subtree(fmt.Sprintf("n%03d", i), wide))
	}
	whole := treeOf(entries...)
	wantReadCode(t, "far too many files", storeOf(wide, whole), whole.Id, impl.ErrMany)
	whole = treeOf(append(entries, subtree("z", objectOf(impl.KindTree, "none")))...)
	wantReadCode(t, "far too many files, then what is not there", storeOf(wide, whole), whole.Id, impl.ErrNone)
}

func TestReadFilesOfRandomStores(t *testing.T) {
	random := rand.New(rand.NewSource(9))
	codes := map[int64]int{}
	for round := range 600 {
		trees := []impl.Object{objectOf(impl.KindTree, ""), treeOf(fileOf("x"))}
		if round%3 == 0 {
			trees = append(trees, objectOf(impl.KindTree, "bad"))
		}
		for range 2 + random.Intn(6) {
			var entries []impl.TreeEntry
			for _, name := range partingNames[:8] {
				switch random.Intn(5) {
				case 0:
					entries = append(entries, fileOf(name))
				case 1, 2:
					entries = append(entries, subtree(name, trees[max(0, len(trees)-1-random.Intn(4))]))
				}
			}
			if tree := treeOf(entries...); !slices.Contains(trees, tree) {
				trees = append(trees, tree)
			}
		}
		store := storeOf(trees...)
		if round%4 == 0 {
			store = slices.Delete(store, 0, 1)
		}
		if storeFaultByWords(store) != impl.OK {
			continue
		}
		codes[wantRead(t, fmt.Sprintf("round %d", round), store, wholeOf(trees)).Code]++
	}
	for _, code := range []int64{impl.OK, impl.ErrNone, impl.ErrText, impl.ErrMany} {
		if codes[code] < 20 {
			t.Errorf("the stores do not reach the code %d: %v", code, codes)
		}
	}
}

func TestStoresWithAFaultAheadOfTheFiles(t *testing.T) {
	for name, c := range faultyStores() {
		for _, files := range [][]impl.File{nil, filesAt("a"), faultyFiles()["too many"].files, faultyFiles()["a zero file"].files} {
			if r := impl.WriteFiles(c.store, files); !sameStoreResult(r, impl.StoreResult{Code: c.code}) {
				t.Errorf("%s: WriteFiles = %#v, want %d", name, r, c.code)
			}
		}
		for _, id := range []string{"", "t0007", "none", "b03f6"} {
			if r := impl.ReadFiles(c.store, id); !sameFilesResult(r, impl.FilesResult{Code: c.code}) {
				t.Errorf("%s: ReadFiles = %#v, want %d", name, r, c.code)
			}
		}
	}
}

func TestPromise8EveryTwoSmallListsDiffer(t *testing.T) {
	var lists [][]impl.File
	for _, paths := range [][]string{nil, {"a"}, {"b"}, {"a", "b"}, {"a-", "a/b"}, {"a/b"}, {"a/b", "b"}, {"a", "a-", "b"}, {"a-/b", "a/b", "a0/b"}} {
		for variant := range 4 {
			var files []impl.File
			for i, path := range paths {
				files = append(files, impl.File{Path: path, Mode: int64(1 + variant%2), Id: []string{"b0001", "b0002"}[(variant/2+i)%2]})
			}
			lists = append(lists, files)
		}
	}
	kinds := map[string]int{}
	for _, a := range lists {
		for _, b := range lists {
			for _, d := range wantDiffed(t, fmt.Sprintf("%v and %v", a, b), a, b).Deltas {
				switch none := (impl.File{}); {
				case d.Old == none:
					kinds["added"]++
				case d.New == none:
					kinds["taken away"]++
				case d.Old.Mode != d.New.Mode && d.Old.Id == d.New.Id:
					kinds["of another mode"]++
				case d.Old.Mode == d.New.Mode:
					kinds["of another id"]++
				default:
					kinds["of another mode and id"]++
				}
			}
		}
	}
	if len(kinds) != 5 {
		t.Errorf("the lists do not reach all: %v", kinds)
	}
}

func TestPromise8RandomListsDiffer(t *testing.T) {
	random := rand.New(rand.NewSource(10))
	for round := range 300 {
		names := partingNames[:2+round%8]
		a, b := randomFiles(random, maxFiles, names), randomFiles(random, maxFiles, names)
		name := fmt.Sprintf("round %d", round)
		wantDiffed(t, name, a, b)
		wantDiffed(t, name+", back", b, a)
		if r := wantDiffed(t, name+", the same", a, slices.Clone(a)); r.Code != impl.OK || len(r.Deltas) != 0 {
			t.Errorf("%s: the same differs: %#v", name, r)
		}
		wantDiffed(t, name+", from nothing", nil, a)
		wantDiffed(t, name+", to nothing", a, []impl.File{})
	}
	full, other := fullFiles(maxFiles, 1), fullFiles(maxFiles, 4)
	if r := wantDiffed(t, "all others", full, other); len(r.Deltas) != 2*maxFiles {
		t.Errorf("all others: %d", len(r.Deltas))
	}
}

func TestDiffFiles(t *testing.T) {
	none := impl.File{}
	a := []impl.File{{Path: "a", Mode: 1, Id: "b0001"}, {Path: "b", Mode: 1, Id: "b0001"}, {Path: "c", Mode: 1, Id: "b0001"}, {Path: "e", Mode: 1, Id: "b0001"}}
	b := []impl.File{{Path: "a", Mode: 2, Id: "b0001"}, {Path: "b", Mode: 1, Id: "b0002"}, {Path: "c", Mode: 1, Id: "b0001"}, {Path: "d", Mode: 1, Id: "b0001"}}
	want := []impl.Delta{{Path: "a", Old: a[0], New: b[0]}, {Path: "b", Old: a[1], New: b[1]}, {Path: "d", Old: none, New: b[3]}, {Path: "e", Old: a[3], New: none}}
	if r := impl.DiffFiles(a, b); !sameDeltasResult(r, impl.DeltasResult{Deltas: want}) {
		t.Errorf("DiffFiles = %#v, want %#v", r, want)
	}
}

func TestApplyDeltasTellsItsCodes(t *testing.T) {
	with := func(path string, mode int64, id string) impl.File { return impl.File{Path: path, Mode: mode, Id: id} }
	none := impl.File{}
	a, b, c := with("a", 1, "b0001"), with("b", 2, "b0002"), with("c/d", 1, "b0003")
	files := []impl.File{a, b, c}
	a2, b2, new := with("a", 2, "b0001"), with("b", 2, "b0009"), with("n", 1, "b0001")
	change := func(path string, before impl.File, after impl.File) impl.Delta {
		return impl.Delta{Path: path, Old: before, New: after}
	}
	form, clash, taken, wrong, many := int64(impl.ErrForm), int64(impl.ErrClash), int64(impl.ErrTaken), int64(impl.ErrRange), int64(impl.ErrMany)
	var more []impl.Delta
	for i := range maxFiles - 2 {
		path := fmt.Sprintf("n%03d", i)
		more = append(more, change(path, none, with(path, 1, "b0001")))
	}
	for _, k := range []struct {
		name   string
		deltas []impl.Delta
		code   int64
	}{
		{"none", nil, impl.OK},
		{"one changed", []impl.Delta{change("a", a, a2)}, impl.OK},
		{"two changed", []impl.Delta{change("a", a, a2), change("b", b, b2)}, impl.OK},
		{"one added", []impl.Delta{change("n", none, new)}, impl.OK},
		{"one taken away", []impl.Delta{change("b", b, none)}, impl.OK},
		{"all taken away", []impl.Delta{change("a", a, none), change("b", b, none), change("c/d", c, none)}, impl.OK},
		{"a file in place of a directory", []impl.Delta{change("c", none, with("c", 1, "b0001")), change("c/d", c, none)}, impl.OK},
		{"a directory in place of a file", []impl.Delta{change("a", a, none), change("a/b", none, with("a/b", 1, "b0001"))}, impl.OK},
		{"not rising", []impl.Delta{change("b", b, b2), change("a", a, a2)}, form},
		{"one twice", []impl.Delta{change("a", a, a2), change("a", a2, a)}, form},
		{"the same twice", []impl.Delta{change("a", a, a2), change("a", a, a2)}, form},
		{"old and new are the same", []impl.Delta{change("a", a, a)}, form},
		{"both zero", []impl.Delta{change("a", none, none)}, form},
		{"all zero", make([]impl.Delta, 1), form},
		{"the same, and of no file", []impl.Delta{change("n", new, new)}, form},
		{"old of another path", []impl.Delta{change("a", b, a2)}, form},
		{"new of another path", []impl.Delta{change("a", a, b2)}, form},
		{"old of another path, new zero", []impl.Delta{change("a", b, none)}, form},
		{"new of another path, old zero", []impl.Delta{change("n", none, b)}, form},
		{"both of another path", []impl.Delta{change("n", a, a2)}, form},
		{"old of no path, and not zero", []impl.Delta{change("a", with("", 1, "b0001"), a)}, form},
		{"new of no path, and not zero", []impl.Delta{change("a", a, with("", 1, ""))}, form},
		{"new with an id alone", []impl.Delta{change("a", a, with("", 0, "b0001"))}, form},
		{"old with a mode alone", []impl.Delta{change("a", with("", 1, ""), a)}, form},
		{"no path, and files of none", []impl.Delta{change("", none, with("", 1, "b0001"))}, form},
		{"no path, and an old file of none", []impl.Delta{change("", with("", 1, "b0001"), none)}, clash},
		{"old of another mode", []impl.Delta{change("a", a2, none)}, clash},
		{"old of another id", []impl.Delta{change("b", b2, b)}, clash},
		{"old where there is none", []impl.Delta{change("n", new, none)}, clash},
		{"none where there is one", []impl.Delta{change("a", none, a2)}, clash},
		{"none where the same is", []impl.Delta{change("a", none, a)}, clash},
		{"a directory is no file", []impl.Delta{change("c", with("c", 1, "b0001"), none)}, clash},
		{"a clash ahead of a wrong form", []impl.Delta{change("a", a2, none), change("b", b, b)}, clash},
		{"a wrong form ahead of a clash", []impl.Delta{change("a", a, a), change("b", b2, none)}, form},
		{"a clash ahead of one that does not rise", []impl.Delta{change("b", b2, none), change("a", a, a2)}, clash},
		{"not rising, and a clash", []impl.Delta{change("b", b, b2), change("a", a2, a)}, form},
		{"good, then a clash", []impl.Delta{change("a", a, a2), change("b", b2, none)}, clash},
		{"good, then a wrong form", []impl.Delta{change("a", a, a2), change("b", b, a2)}, form},
		{"a clash behind what makes a fault", []impl.Delta{change("a", a, with("a", 3, "b0001")), change("b", b2, none)}, clash},
		{"a wrong form behind what makes a fault", []impl.Delta{change("a", a, with("a", 3, "b0001")), change("b", b, b)}, form},
		{"what is made has a wrong mode", []impl.Delta{change("a", a, with("a", 3, "b0001"))}, wrong},
		{"what is made has a wrong id", []impl.Delta{change("a", a, with("a", 1, "t0001"))}, form},
		{"what is made has a wrong path", []impl.Delta{change("n/", none, with("n/", 1, "b0001"))}, form},
		{"what is made has a path of five names", []impl.Delta{change("n/n/n/n/n", none, with("n/n/n/n/n", 1, "b0001"))}, form},
		{"what is made is within", []impl.Delta{change("a/b", none, with("a/b", 1, "b0001"))}, taken},
		{"what is made has one within", []impl.Delta{change("c", none, with("c", 1, "b0001"))}, taken},
		{"what is made is within what is made", []impl.Delta{change("n", none, new), change("n/n", none, with("n/n", 1, "b0001"))}, taken},
		{"within, ahead of a wrong mode", []impl.Delta{change("a/b", none, with("a/b", 1, "b0001")), change("n", none, with("n", 0, "b0001"))}, wrong},
		{"as many as may be", more[1:], impl.OK},
		{"too many", more, many},
		{"too many, of wrong modes", append(slices.Clone(more), change("z", none, with("z", 0, ""))), many},
		{"as many as may be, with one taken away", append([]impl.Delta{change("a", a, none)}, more...), impl.OK},
	} {
		r := wantApplied(t, k.name, files, k.deltas)
		if r.Code != k.code || r.Code != impl.OK && r.Files != nil {
			t.Errorf("%s: %d, want %d", k.name, r.Code, k.code)
		}
	}
}

func TestApplyDeltasOfEverySmallList(t *testing.T) {
	files := []impl.File{{Path: "a", Mode: 1, Id: "b0001"}, {Path: "b", Mode: 2, Id: "b0001"}}
	pool := append(slices.Clone(files), impl.File{}, impl.File{Path: "a", Mode: 2, Id: "b0001"}, impl.File{Path: "b", Mode: 3, Id: "b0001"}, impl.File{Path: "b/c", Mode: 1, Id: "b0001"}, impl.File{Mode: 1})
	var deltas []impl.Delta
	for _, path := range []string{"", "a", "b", "b/c"} {
		for _, before := range pool {
			for _, after := range pool {
				deltas = append(deltas, impl.Delta{Path: path, Old: before, New: after})
			}
		}
	}
	codes := map[int64]int{}
	for _, held := range [][]impl.File{nil, files, files[:1]} {
		for _, one := range deltas {
			codes[wantApplied(t, fmt.Sprintf("%v: %v", held, one), held, []impl.Delta{one}).Code]++
			for _, other := range deltas {
				codes[wantApplied(t, fmt.Sprintf("%v: %v, %v", held, one, other), held, []impl.Delta{one, other}).Code]++
			}
		}
	}
	for _, code := range []int64{impl.OK, impl.ErrForm, impl.ErrRange, impl.ErrClash, impl.ErrTaken} {
		if codes[code] == 0 {
			t.Errorf("no list has the code %d", code)
		}
	}
}

// anyFiles: lists of files of every kind, with and without faults.
func anyFiles() [][]impl.File {
	lists := [][]impl.File{nil, {}, filesAt("a"), filesAt("a", "b/c", "d"), filesAt("a-/b", "a/b", "a0/b", "c/d/e/f"), fullFiles(maxFiles, 3), fullFiles(maxFiles-1, 2)}
	for _, name := range []string{"a zero file", "too many", "one twice", "within, one between", "mode of a tree", "far too many"} {
		lists = append(lists, faultyFiles()[name].files)
	}
	return lists
}

// anyTreeStores: stores with trees in them, and others.
func anyTreeStores() [][]impl.Object {
	leaf := treeOf(fileOf("x"), fileOf("y"))
	pair := treeOf(subtree("a", leaf), subtree("b", leaf))
	written := writeByWords(fullStore(20, 6), fullFiles(maxFiles, 3)).Store
	return append(anyStores(), storeOf(leaf, pair), storeOf(pair), written, []impl.Object{objectOf(2, "tree t2ecc aa\n")}, []impl.Object{objectOf(2, "")})
}

// tellFiles: what all functions of chapter 7 answer to these arguments, in words.
func tellFiles(store []impl.Object, tree string, a []impl.File, b []impl.File, deltas []impl.Delta, path string, dir string) string {
	return fmt.Sprintf("%d %d %#v %#v %#v %#v %v", impl.PathFault(path), impl.FilesFault(a), impl.WriteFiles(store, a), impl.ReadFiles(store, tree), impl.DiffFiles(a, b), impl.ApplyDeltas(a, deltas), impl.InDir(path, dir))
}

// anyDeltas: deltas that fit one of the lists, and others.
func anyDeltas() [][]impl.Delta {
	lists := anyFiles()
	return [][]impl.Delta{nil, {}, make([]impl.Delta, 2), diffByWords(lists[2], lists[3]).Deltas, diffByWords(lists[3], lists[4]).Deltas, diffByWords(lists[4], nil).Deltas, diffByWords(nil, lists[5]).Deltas, {{Path: "a", New: impl.File{Path: "a", Mode: 9}}}}
}

func treeIdsIn(store []impl.Object) []string {
	ids := []string{"", "t0007", "none", "b03f6"}
	for _, object := range store {
		if object.Kind == impl.KindTree {
			ids = append(ids, object.Id)
		}
	}
	return ids
}

func TestPromise1FilesHangOnTheArgumentsAlone(t *testing.T) {
	stores, lists, deltas := anyTreeStores(), anyFiles(), anyDeltas()
	paths := []string{"a", "a/b", "a/b/c", "", "/", "a-/b", "/a", "a/"}
	tell := func(i int) string {
		store := stores[i%len(stores)]
		ids := treeIdsIn(store)
		return tellFiles(slices.Clone(store), strings.Clone(ids[i%len(ids)]), slices.Clone(lists[(i*3)%len(lists)]), slices.Clone(lists[(i*5+1)%len(lists)]), slices.Clone(deltas[i%len(deltas)]), strings.Clone(paths[i%len(paths)]), strings.Clone(paths[(i*3)%len(paths)]))
	}
	answers := make([]string, 240)
	for i := range answers {
		answers[i] = tell(i)
	}
	// Backwards each call stands behind other ones than before.
	for i := len(answers) - 1; i >= 0; i-- {
		if tell(i) != answers[i] {
			t.Errorf("round %d: another answer at the second call", i)
		}
	}
}

func TestPromise1FilesChangeNoArgument(t *testing.T) {
	stores, lists, deltas := anyTreeStores(), anyFiles(), anyDeltas()
	for i := range 300 {
		// What lies behind a list in its memory is not the function's either.
		store := append(slices.Clone(stores[i%len(stores)]), impl.Object{Id: "behind", Kind: 7})
		a := append(slices.Clone(lists[(i*3)%len(lists)]), impl.File{Path: "behind"})
		b := append(slices.Clone(lists[(i*5+1)%len(lists)]), impl.File{Path: "behind"})
		d := append(slices.Clone(deltas[i%len(deltas)]), impl.Delta{Path: "behind"})
		keptStore, keptA, keptB, keptD := slices.Clone(store), slices.Clone(a), slices.Clone(b), slices.Clone(d)
		ids := treeIdsIn(store[:len(store)-1])
		tellFiles(store[:len(store)-1], ids[i%len(ids)], a[:len(a)-1], b[:len(b)-1], d[:len(d)-1], "a/b", "a")
		if !slices.Equal(store, keptStore) || !slices.Equal(a, keptA) || !slices.Equal(b, keptB) || !slices.Equal(d, keptD) {
			t.Errorf("round %d: a list was changed, or what lies behind it", i)
		}
	}
}

// textsOfFiles: all texts of files.
func textsOfFiles(files ...impl.File) []string {
	var texts []string
	for _, file := range files {
		texts = append(texts, file.Path, file.Id)
	}
	return texts
}

func textsOfStore(store []impl.Object) []string {
	var texts []string
	for _, object := range store {
		texts = append(texts, object.Id, object.Data)
	}
	return texts
}

// wantNewTexts: none of the texts shares memory with one that was given, or with another of them.
func wantNewTexts(t *testing.T, name string, given []string, texts []string) {
	t.Helper()
	for i, text := range texts {
		for _, other := range slices.Concat(given, texts[:i]) {
			if sharesBytes(text, other) {
				t.Errorf("%s: %q has memory that is not new", name, text)
			}
		}
	}
}

func TestPromise1FilesAreNewMemory(t *testing.T) {
	files, others := filesAt("a", "a-/b", "a/b/c/d", "f"), fullFiles(12, 2)
	files = files[1:]
	store := storeOf(append(fullStore(15, 3), impl.WriteFiles(nil, others).Store...)...)
	written := impl.WriteFiles(store, files)
	given := slices.Concat(textsOfStore(store), textsOfFiles(files...), textsOfFiles(others...))
	wantNewTexts(t, "WriteFiles", given, append(textsOfStore(written.Store), written.Id))
	again := impl.WriteFiles(written.Store, files)
	wantNewTexts(t, "WriteFiles of what is there", append(textsOfStore(written.Store), written.Id), append(textsOfStore(again.Store), again.Id))
	read := impl.ReadFiles(written.Store, written.Id)
	wantNewTexts(t, "ReadFiles", append(textsOfStore(written.Store), written.Id), textsOfFiles(read.Files...))
	differ := impl.DiffFiles(files, others)
	var texts []string
	for _, d := range differ.Deltas {
		texts = append(append(texts, d.Path), textsOfFiles(d.Old, d.New)...)
	}
	wantNewTexts(t, "DiffFiles", given, texts)
	for _, deltas := range [][]impl.Delta{differ.Deltas, differ.Deltas[:2], nil} {
		made := impl.ApplyDeltas(files, deltas)
		if made.Code != impl.OK || len(made.Files) == 0 {
			t.Fatalf("ApplyDeltas = %#v", made)
		}
		wantNewTexts(t, "ApplyDeltas", slices.Concat(given, texts), textsOfFiles(made.Files...))
		for i := range made.Files {
			made.Files[i] = impl.File{}
		}
	}
	kept := slices.Clone(written.Store)
	for i := range again.Store {
		again.Store[i] = impl.Object{}
	}
	for i := range read.Files {
		read.Files[i] = impl.File{}
	}
	if !slices.Equal(written.Store, kept) || !slices.Equal(impl.ReadFiles(written.Store, written.Id).Files, files) {
		t.Error("an answer shares its list with an argument, or with another answer")
	}
}
