package tests

import (
	"fmt"
	"math"
	"math/rand"
	"regexp"
	"slices"
	"strconv"
	"strings"
	"testing"

	"loop.example/g00172/impl"
)

const maxScript = 3000
const maxCommands = 60
const maxBranches = 20
const maxRepoTime = 1000000

func TestNumbersOfTheRepository(t *testing.T) {
	if impl.MaxScript != maxScript || impl.MaxCommands != maxCommands {
		t.Error("a number is not the document's")
	}
}

func repoFaultByWords(r impl.Repo) int64 {
	if code := storeFaultByWords(r.Store); code != impl.OK {
		return code
	}
	if len(r.Branches) > maxBranches {
		return impl.ErrMany
	}
	all := commitsByWords(r.Store)
	ahead := ""
	for _, branch := range r.Branches {
		// A name is not empty, so that the first one is above what is.
		if nameFaultByWords(branch.Name) != impl.OK || !isAbove(branch.Name, ahead) {
			return impl.ErrForm
		}
		if code := historyByWords(all, branch.Id).Code; code != impl.OK {
			return code
		}
		ahead = branch.Name
	}
	if code := nameFaultByWords(r.Here); code != impl.OK {
		return code
	}
	if r.Other != "" && historyByWords(all, r.Other).Code != impl.OK {
		return historyByWords(all, r.Other).Code
	}
	if code := indexFaultByWords(r.Index); code != impl.OK {
		return code
	}
	if !slices.Equal(workPaths(r.Works), clashesByWords(r.Index).Lines) || r.Other == "" && len(r.Works) > 0 {
		return impl.ErrForm
	}
	for _, work := range r.Works {
		if isTooLong(work.Text) {
			return impl.ErrMany
		}
	}
	if code := rulesFaultByWords(r.Rules); code != impl.OK {
		return code
	}
	if r.Time < 0 || r.Time > maxRepoTime {
		return impl.ErrRange
	}
	return impl.OK
}

func branchByWords(r impl.Repo, name string) string {
	id := ""
	for _, branch := range r.Branches {
		if branch.Name == name {
			id = branch.Id
		}
	}
	return id
}

func refused(code int64) impl.RepoResult {
	return impl.RepoResult{Code: code}
}

// withBranch: the branches with one that has that id, in new memory.
func withBranch(branches []impl.Branch, name string, id string) []impl.Branch {
	others := slices.DeleteFunc(slices.Clone(branches), func(branch impl.Branch) bool { return branch.Name == name })
	others = append(others, impl.Branch{Name: name, Id: id})
	slices.SortFunc(others, func(a impl.Branch, b impl.Branch) int { return strings.Compare(a.Name, b.Name) })
	return others
}

// entriesOfPath: those of one path, and all others.
func entriesOfPath(index []impl.Entry, path string) ([]impl.Entry, []impl.Entry) {
	var of, others []impl.Entry
	for _, entry := range index {
		if entry.Path == path {
			of = append(of, entry)
		} else {
			others = append(others, entry)
		}
	}
	return of, others
}

func putFileByWords(r impl.Repo, path string, text string) impl.RepoResult {
	if pathFaultByWords(path) != impl.OK {
		return refused(impl.ErrForm)
	}
	if isTooLong(text) {
		return refused(impl.ErrMany)
	}
	of, others := entriesOfPath(r.Index, path)
	entry := impl.Entry{Path: path, Mode: impl.ModeFile}
	if len(of) > 0 {
		entry = of[0]
	}
	if entry.Stage != 0 {
		return refused(impl.ErrBusy)
	}
	put := putByWords(r.Store, impl.KindBlob, text)
	if put.Code != impl.OK {
		return refused(put.Code)
	}
	entry.Id = put.Id
	r.Store, r.Index = put.Store, sortIndex(append(others, entry))
	if len(r.Index) > maxEntries {
		return refused(impl.ErrMany)
	}
	return impl.RepoResult{Repo: r}
}

func dropFileByWords(r impl.Repo, path string) impl.RepoResult {
	of, others := entriesOfPath(r.Index, path)
	if len(of) == 0 || of[0].Stage != 0 {
		return refused(impl.ErrNone)
	}
	r.Index = others
	return impl.RepoResult{Repo: r}
}

func commitRepoByWords(r impl.Repo, note string) impl.RepoResult {
	files := indexFilesByWords(r.Index)
	if files.Code != impl.OK {
		return refused(files.Code)
	}
	if r.Time == maxRepoTime {
		return refused(impl.ErrRange)
	}
	var parents []string
	if head := branchByWords(r, r.Here); head != "" {
		parents = append(parents, head)
	}
	if r.Other != "" && r.Other != branchByWords(r, r.Here) {
		parents = append(parents, r.Other)
	}
	added := addByWords(r.Store, files.Files, parents, r.Time, note)
	if added.Code != impl.OK {
		return refused(added.Code)
	}
	if branchByWords(r, r.Here) == "" && len(r.Branches) == maxBranches {
		return refused(impl.ErrMany)
	}
	r.Store, r.Branches, r.Other = added.Store, withBranch(r.Branches, r.Here, added.Id), ""
	r.Time++
	return impl.RepoResult{Repo: r}
}

func isBusyByWords(r impl.Repo) bool {
	files := indexFilesByWords(r.Index)
	if r.Other != "" || files.Code != impl.OK {
		return true
	}
	head := branchByWords(r, r.Here)
	if head == "" {
		return false
	}
	ofHead := commitFilesByWords(r.Store, head)
	return ofHead.Code != impl.OK || !slices.Equal(ofHead.Files, files.Files)
}

// indexAtByWords: the index of a commit's files, and the code of these.
func indexAtByWords(store []impl.Object, id string) impl.EntriesResult {
	files := commitFilesByWords(store, id)
	if files.Code != impl.OK {
		return impl.EntriesResult{Code: files.Code}
	}
	return filesIndexByWords(files.Files)
}

func switchByWords(r impl.Repo, name string) impl.RepoResult {
	if nameFaultByWords(name) != impl.OK {
		return refused(impl.ErrForm)
	}
	if isBusyByWords(r) {
		return refused(impl.ErrBusy)
	}
	id, head := branchByWords(r, name), branchByWords(r, r.Here)
	switch {
	case id != "":
		index := indexAtByWords(r.Store, id)
		if index.Code != impl.OK {
			return refused(index.Code)
		}
		r.Index = index.Entries
	case head != "" && len(r.Branches) == maxBranches:
		return refused(impl.ErrMany)
	case head != "":
		r.Branches = withBranch(r.Branches, name, head)
	}
	r.Here = name
	return impl.RepoResult{Repo: r}
}

func mergeBranchByWords(r impl.Repo, name string) impl.RepoResult {
	id, head := branchByWords(r, name), branchByWords(r, r.Here)
	if id == "" || head == "" {
		return refused(impl.ErrNone)
	}
	if isBusyByWords(r) {
		return refused(impl.ErrBusy)
	}
	m := mergeCommitsByWords(r.Store, head, id)
	if m.Code != impl.OK {
		return refused(m.Code)
	}
	switch m.Kind {
	case 2:
		return impl.RepoResult{Said: "already", Repo: r}
	case 1:
		r.Branches, r.Index = withBranch(r.Branches, r.Here, id), m.Index
		return impl.RepoResult{Said: "forward", Repo: r}
	}
	replayed := replayByWords(m.Store, m.Index, r.Rules)
	if replayed.Code != impl.OK {
		return refused(replayed.Code)
	}
	left := clashesByWords(replayed.Index).Lines
	r.Store, r.Index, r.Other, r.Works = replayed.Store, replayed.Index, id, nil
	for _, work := range m.Works {
		if slices.Contains(left, work.Path) {
			r.Works = append(r.Works, work)
		}
	}
	return impl.RepoResult{Said: fmt.Sprintf("merged %d", len(left)), Repo: r}
}

func resolveFileByWords(r impl.Repo, path string, text string) impl.RepoResult {
	of, others := entriesOfPath(r.Index, path)
	if len(of) == 0 || of[0].Stage == 0 {
		return refused(impl.ErrNone)
	}
	put := putByWords(r.Store, impl.KindBlob, text)
	if put.Code != impl.OK {
		return refused(put.Code)
	}
	if pre := preByWords(put.Store, r.Index, path); pre.Code == impl.OK {
		learned := learnByWords(r.Rules, pre.Text, text)
		if learned.Code != impl.OK {
			return refused(learned.Code)
		}
		r.Rules = learned.Rules
	}
	r.Store, r.Index = put.Store, sortIndex(append(others, impl.Entry{Path: path, Mode: of[0].Mode, Id: put.Id}))
	r.Works = slices.DeleteFunc(slices.Clone(r.Works), func(work impl.Work) bool { return work.Path == path })
	return impl.RepoResult{Repo: r}
}

func abortByWords(r impl.Repo) impl.RepoResult {
	if r.Other == "" {
		return refused(impl.ErrNone)
	}
	index := impl.EntriesResult{}
	if head := branchByWords(r, r.Here); head != "" {
		index = indexAtByWords(r.Store, head)
	}
	if index.Code != impl.OK {
		return refused(index.Code)
	}
	r.Index, r.Works, r.Other = index.Entries, nil, ""
	return impl.RepoResult{Repo: r}
}

// statusByWords takes the lines of each kind together, one kind behind the other.
func statusByWords(r impl.Repo) impl.RepoResult {
	files := impl.FilesResult{}
	if head := branchByWords(r, r.Here); head != "" {
		files = commitFilesByWords(r.Store, head)
	}
	if files.Code != impl.OK {
		return refused(files.Code)
	}
	ofHead := byPaths(files.Files)
	changes, gone, clashes := "", "", ""
	for _, path := range clashesByWords(r.Index).Lines {
		clashes += "clash " + path + "\n"
	}
	for _, file := range stageFilesByWords(r.Index, 0).Files {
		if ofHead[file.Path] != file {
			changes += "change " + file.Path + "\n"
		}
	}
	for _, file := range files.Files {
		if of, _ := entriesOfPath(r.Index, file.Path); len(of) == 0 {
			gone += "gone " + file.Path + "\n"
		}
	}
	ahead := "on " + r.Here + "\n"
	if r.Other != "" {
		ahead += "merging " + r.Other + "\n"
	}
	return impl.RepoResult{Said: ahead + changes + gone + clashes, Repo: r}
}

var fileLineForm = regexp.MustCompile(`(?s)\A(put|resolve) ([^ ]+) (.*)\z`)
var nameLineForm = regexp.MustCompile(`(?s)\A(drop|switch|merge) ([^ ]+)\z`)
var noteLineForm = regexp.MustCompile(`(?s)\A(commit) (.*)\z`)
var bareLineForm = regexp.MustCompile(`\A(abort|status)\z`)

// callIn reads a line; a call of no word is none.
func callIn(line string) repoCall {
	for _, form := range []*regexp.Regexp{fileLineForm, nameLineForm, noteLineForm, bareLineForm} {
		if parts := form.FindStringSubmatch(line); parts != nil {
			parts = append(parts, "", "")
			return repoCall{parts[1], parts[2], barred(parts[3])}
		}
	}
	return repoCall{}
}

func stepByWords(r impl.Repo, line string) impl.RepoResult {
	if code := repoFaultByWords(r); code != impl.OK {
		return refused(code)
	}
	call := callIn(line)
	if call.word == "" {
		return refused(impl.ErrText)
	}
	answer := call.byWords(r)
	switch {
	case answer.Code != impl.OK:
	case call.word == "commit":
		answer.Said = branchByWords(answer.Repo, r.Here)
	case answer.Said == "":
		answer.Said = "ok"
	}
	return answer
}

func runByWords(r impl.Repo, text string) impl.RepoResult {
	if code := repoFaultByWords(r); code != impl.OK {
		return refused(code)
	}
	lines := strings.Split(text, "\n")
	if lines[len(lines)-1] == "" {
		lines = lines[:len(lines)-1]
	}
	if len(text) > maxScript || len(lines) > maxCommands {
		return refused(impl.ErrMany)
	}
	said := ""
	for _, line := range lines {
		step := stepByWords(r, line)
		if step.Code != impl.OK {
			said += fmt.Sprintf("! %d\n", step.Code)
			continue
		}
		r = step.Repo
		said += step.Said
		if !strings.HasSuffix(said, "\n") {
			said += "\n"
		}
	}
	return impl.RepoResult{Said: said, Repo: r}
}

// repoCall: a function by the word of its command, with what it is told beside the repository: a path, a name or a note, and a text.
type repoCall struct {
	word, about, text string
}

func (c repoCall) made(r impl.Repo) impl.RepoResult {
	switch c.word {
	case "put":
		return impl.PutFile(r, c.about, c.text)
	case "drop":
		return impl.DropFile(r, c.about)
	case "commit":
		return impl.CommitRepo(r, c.about)
	case "switch":
		return impl.SwitchTo(r, c.about)
	case "merge":
		return impl.MergeBranch(r, c.about)
	case "resolve":
		return impl.ResolveFile(r, c.about, c.text)
	case "abort":
		return impl.AbortMerge(r)
	case "status":
		// It leaves the repository as it is.
		status := impl.StatusText(r)
		if status.Code != impl.OK {
			return impl.RepoResult{Code: status.Code, Said: status.Text}
		}
		return impl.RepoResult{Said: status.Text, Repo: r}
	}
	panic(c.word)
}

func (c repoCall) byWords(r impl.Repo) impl.RepoResult {
	if code := repoFaultByWords(r); code != impl.OK {
		return refused(code)
	}
	switch c.word {
	case "put":
		return putFileByWords(r, c.about, c.text)
	case "drop":
		return dropFileByWords(r, c.about)
	case "commit":
		return commitRepoByWords(r, c.about)
	case "switch":
		return switchByWords(r, c.about)
	case "merge":
		return mergeBranchByWords(r, c.about)
	case "resolve":
		return resolveFileByWords(r, c.about, c.text)
	case "abort":
		return abortByWords(r)
	case "status":
		return statusByWords(r)
	}
	panic(c.word)
}

func sameRepo(a impl.Repo, b impl.Repo) bool {
	return slices.Equal(a.Store, b.Store) && slices.Equal(a.Branches, b.Branches) && a.Here == b.Here && a.Other == b.Other && slices.Equal(a.Index, b.Index) && slices.Equal(a.Works, b.Works) && slices.Equal(a.Rules, b.Rules) && a.Time == b.Time
}

func sameRepoResult(a impl.RepoResult, b impl.RepoResult) bool {
	return a.Code == b.Code && a.Said == b.Said && sameRepo(a.Repo, b.Repo)
}

// tellRepo: a repository but for its objects and rules, of which only the number is told.
func tellRepo(r impl.Repo) string {
	return fmt.Sprintf("%d objects, %v, here %q, other %q, time %d, %d rules: %s", len(r.Store), r.Branches, r.Here, r.Other, r.Time, len(r.Rules), tellFilesOf(r))
}

// tellFilesOf: the index and the works, as tellMerged tells them.
func tellFilesOf(r impl.Repo) string {
	return tellMerged(impl.TreesResult{Store: r.Store, Index: r.Index, Works: r.Works})
}

// wantSound asks promise 15 of what a call has made: no fault, but of a history that is too long, and no object lost.
func wantSound(t *testing.T, name string, before impl.Repo, after impl.Repo) {
	t.Helper()
	wantKept(t, name, before.Store, after.Store)
	code := impl.RepoFault(after)
	isLong := func(id string) bool { return impl.HistoryOf(after.Store, id).Code == impl.ErrMany }
	if code == impl.OK || code == impl.ErrMany && isLong(branchByWords(after, after.Here)) {
		return
	}
	t.Errorf("%s: the repository has the fault %d: %s", name, code, tellRepo(after))
}

// wantAnswer holds an answer against that of the words.
func wantAnswer(t *testing.T, name string, r impl.Repo, got impl.RepoResult, want impl.RepoResult) {
	t.Helper()
	if !sameRepoResult(got, want) {
		t.Errorf("%s: %d, %q, %.600s\nwant %d, %q, %.600s", name, got.Code, got.Said, tellRepo(got.Repo), want.Code, want.Said, tellRepo(want.Repo))
	}
	if got.Code != impl.OK {
		return
	}
	wantSound(t, name, r, got.Repo)
}

func wantCalled(t *testing.T, name string, r impl.Repo, word string, about string, text string) impl.RepoResult {
	t.Helper()
	call := repoCall{word, about, text}
	got := call.made(r)
	wantAnswer(t, fmt.Sprintf("%s: %s %.40q %.40q", name, word, about, text), r, got, call.byWords(r))
	return got
}

func wantStepped(t *testing.T, name string, r impl.Repo, line string) impl.RepoResult {
	t.Helper()
	got := impl.StepRepo(r, line)
	wantAnswer(t, fmt.Sprintf("%s: StepRepo %.60q", name, line), r, got, stepByWords(r, line))
	return got
}

func wantRun(t *testing.T, name string, r impl.Repo, text string) impl.RepoResult {
	t.Helper()
	got := impl.RunRepo(r, text)
	wantAnswer(t, fmt.Sprintf("%s: RunRepo %.60q", name, text), r, got, runByWords(r, text))
	return got
}

// standing: a repository on main, with branches told by their names, each with an equals sign and the letter of its commit; its index is that of the head's files.
func standing(store []impl.Object, branches string) impl.Repo {
	r := impl.Repo{Store: store, Here: "main", Time: 9}
	for _, word := range strings.Fields(branches) {
		name, letter, _ := strings.Cut(word, "=")
		r.Branches = withBranch(r.Branches, name, idNamed(letter))
	}
	if head := branchByWords(r, r.Here); head != "" {
		r.Index = indexAtByWords(store, head).Entries
	}
	return r
}

// merging: a repository on main at the commit m, with o being merged into it, whose index is told as clashing takes it; each path that clashes has a work.
func merging(words string) impl.Repo {
	index, blobs := clashing(words)
	r := standing(soundStore(append(told("m x=1| y=1|", "o x=2|"), blobs...)...), "main=m dev=o")
	r.Index, r.Other = index, idNamed("o")
	for _, path := range clashesByWords(index).Lines {
		r.Works = append(r.Works, impl.Work{Path: path, Text: "work of " + path + "\n"})
	}
	return r
}

// scripted: a new repository on main behind these lines, none of which may have a code.
func scripted(lines ...string) impl.Repo {
	r := impl.NewRepo("main").Repo
	for _, line := range lines {
		step := impl.StepRepo(r, line)
		if step.Code != impl.OK {
			panic(fmt.Sprintf("%s: %d", line, step.Code))
		}
		r = step.Repo
	}
	return r
}

// pointing: branches, each told as its name and its id.
func pointing(words ...string) []impl.Branch {
	var branches []impl.Branch
	for i := 0; i < len(words); i += 2 {
		branches = append(branches, impl.Branch{Name: words[i], Id: words[i+1]})
	}
	return branches
}

// worked: works, each told as its path and its text.
func worked(words ...string) []impl.Work {
	var works []impl.Work
	for i := 0; i < len(words); i += 2 {
		works = append(works, impl.Work{Path: words[i], Text: words[i+1]})
	}
	return works
}

// branchesNumbered: so many branches of one commit.
func branchesNumbered(count int, id string) []impl.Branch {
	var branches []impl.Branch
	for i := range count {
		branches = append(branches, impl.Branch{Name: fmt.Sprintf("n%05d", i), Id: id})
	}
	return branches
}

var wrongNames = []string{"", ".", "..", "Main", "a/b", "a b", " main", "main ", "main\n", "aaaaaaaaaaaaa", "\x00", "\x80", "a|b", strings.Repeat("main", 100000)}
var rightNames = []string{"main", "a", "0", "-", "_", "...", ".a", "aaaaaaaaaaaa", "a.b-c_0"}

func TestNewRepo(t *testing.T) {
	for _, name := range rightNames {
		r := impl.NewRepo(name)
		if !sameRepoResult(r, impl.RepoResult{Repo: impl.Repo{Here: name}}) {
			t.Errorf("NewRepo(%q) = %+v", name, r)
		}
		if code := impl.RepoFault(r.Repo); code != impl.OK || impl.HeadOf(r.Repo) != "" {
			t.Errorf("a new repository at %q has the fault %d, the head %q", name, code, impl.HeadOf(r.Repo))
		}
	}
	for _, name := range wrongNames {
		if r := impl.NewRepo(name); !sameRepoResult(r, refused(impl.ErrForm)) {
			t.Errorf("NewRepo(%.40q) = %+v", name, r)
		}
	}
}

// spoilStore: what branches must not have: u cannot be read, v comes from it, w from a commit that is not there, and a row is too long by one commit.
func spoilStore() []impl.Object {
	commits := append(shaped("u! v:u w:z"), rowOf(maxHistory+1)...)
	return soundStore(slices.Concat(merging("x=o|,a|,b| y=o|,-,b| z=s|").Store, commits)...)
}

// soundRepo: a repository with something in all that it has.
func soundRepo() impl.Repo {
	r := merging("x=o|,a|,b| y=o|,-,b| z=s|")
	r.Store, r.Rules = spoilStore(), learnt("o|,a|,c|=ac|")
	return r
}

// repoSpoil: what makes a fault, with its code; what is of a lower rank is told ahead.
type repoSpoil struct {
	rank  int
	name  string
	code  int64
	spoil func(r *impl.Repo)
}

// branchSpoils: lists of branches with a fault in one of them, that of the first one that has any.
func branchSpoils() map[string]struct {
	branches []impl.Branch
	code     int64
} {
	type faulty = struct {
		branches []impl.Branch
		code     int64
	}
	m, o, u, last := idNamed("m"), idNamed("o"), idNamed("u"), idNumbered(maxHistory)
	form, many, none, text := int64(impl.ErrForm), int64(impl.ErrMany), int64(impl.ErrNone), int64(impl.ErrText)
	lists := map[string]faulty{
		"one twice":                              {pointing("a", m, "a", m), form},
		"one name twice":                         {pointing("a", m, "a", o), form},
		"one twice behind another":               {pointing("a", m, "b", m, "b", m), form},
		"not rising":                             {pointing("b", m, "a", m), form},
		"not rising, the longer one ahead":       {pointing("ab", m, "a", m), form},
		"not rising, the last":                   {pointing("a", m, "c", m, "b", m), form},
		"one that comes again":                   {pointing("a", m, "b", m, "a", m), form},
		"not rising, and no commit":              {pointing("b", m, "a", "c1234"), form},
		"not rising, and not read":               {pointing("b", m, "a", u), form},
		"no name, and no commit":                 {pointing("", "c1234"), form},
		"no name, and not read":                  {pointing("a", m, "A", u), form},
		"zero":                                   {make([]impl.Branch, 1), form},
		"no id":                                  {pointing("a", ""), none},
		"not there":                              {pointing("a", "c1234"), none},
		"not there, behind others":               {pointing("a", m, "b", o, "c", "c1234"), none},
		"no commit's id":                         {pointing("a", "x"), none},
		"a blob":                                 {pointing("a", objectOf(impl.KindBlob, "a\n").Id), none},
		"a tree":                                 {pointing("a", commitsByWords(spoilStore())[m].Commit.Tree), none},
		"an id and more behind":                  {pointing("a", m+" "), none},
		"an id in great letters":                 {pointing("a", strings.ToUpper(m)), none},
		"not read":                               {pointing("a", u), text},
		"who comes from what is not read":        {pointing("a", idNamed("v")), text},
		"who comes from what is not there":       {pointing("a", idNamed("w")), none},
		"a history too long":                     {pointing("a", last), many},
		"not there, ahead of no name":            {pointing("a", "c1234", "", m), none},
		"not read, ahead of no name":             {pointing("a", u, "A", m), text},
		"too long, ahead of not rising":          {pointing("b", last, "a", m), many},
		"not read, ahead of too long":            {pointing("a", u, "b", last), text},
		"too long, ahead of not read":            {pointing("a", last, "b", u), many},
		"no name, ahead of not read":             {pointing(".", m, "b", u), form},
		"not rising, ahead of not there":         {pointing("b", m, "b", m, "c", "c1234"), form},
		"as many as may be, the first not there": {append(pointing("a", "c1234"), branchesNumbered(maxBranches-1, m)...), none},
		"as many as may be, the last not read":   {append(branchesNumbered(maxBranches-1, m), impl.Branch{Name: "z", Id: u}), text},
		"as many as may be, the last not rising": {append(branchesNumbered(maxBranches-1, m), impl.Branch{Name: "a", Id: m}), form},
	}
	for _, name := range wrongNames {
		lists[fmt.Sprintf("name %.40q", name)] = faulty{pointing(name, m), form}
		lists[fmt.Sprintf("name %.40q behind another", name)] = faulty{pointing("-", m, name, m), form}
	}
	return lists
}

// repoSpoils: every fault that a repository may have, those of a lower rank ahead.
func repoSpoils() []repoSpoil {
	var spoils []repoSpoil
	add := func(rank int, name string, code int64, spoil func(r *impl.Repo)) {
		spoils = append(spoils, repoSpoil{rank, fmt.Sprintf("%.60s", name), code, spoil})
	}
	for name, c := range faultyStores() {
		add(0, "store: "+name, c.code, func(r *impl.Repo) { r.Store = c.store })
	}
	m := idNamed("m")
	for name, branches := range map[string][]impl.Branch{"one": branchesNumbered(maxBranches+1, m), "many": branchesNumbered(50000, m), "wrong ones": make([]impl.Branch, maxBranches+1)} {
		add(1, "too many branches: "+name, impl.ErrMany, func(r *impl.Repo) { r.Branches = branches })
	}
	for name, c := range branchSpoils() {
		add(2, "branches: "+name, c.code, func(r *impl.Repo) { r.Branches = c.branches })
	}
	for _, name := range wrongNames {
		add(3, fmt.Sprintf("here %.40q", name), impl.ErrForm, func(r *impl.Repo) { r.Here = name })
	}
	for id, code := range map[string]int64{"c1234": impl.ErrNone, "x": impl.ErrNone, objectOf(1, "a\n").Id: impl.ErrNone, m + " ": impl.ErrNone, " ": impl.ErrNone, idNamed("u"): impl.ErrText, idNamed("v"): impl.ErrText, idNamed("w"): impl.ErrNone, idNumbered(maxHistory): impl.ErrMany} {
		add(4, "other "+id, code, func(r *impl.Repo) { r.Other = id })
	}
	for name, c := range faultyIndexes() {
		add(5, "index: "+name, c.code, func(r *impl.Repo) { r.Index = c.index })
	}
	x, y := impl.Work{Path: "x"}, impl.Work{Path: "y"}
	for name, works := range map[string][]impl.Work{"none": nil, "one less": {x}, "the other one less": {y}, "one more": {x, y, {Path: "z"}}, "one more, ahead": {{Path: "a"}, x, y}, "one twice": {x, x}, "all twice": {x, x, y, y}, "another order": {y, x}, "another path": {x, {Path: "z"}}, "no path": {{}, y}, "a path with more behind": {x, {Path: "y "}}, "far too many": make([]impl.Work, 100000)} {
		add(6, "works: "+name, impl.ErrForm, func(r *impl.Repo) { r.Works = works })
	}
	add(6, "works: nothing clashes", impl.ErrForm, func(r *impl.Repo) { r.Index = staged("x=0 y=0") })
	add(6, "works: another clashes", impl.ErrForm, func(r *impl.Repo) { r.Index = staged("x=12 z=3") })
	add(6, "works: one more clashes", impl.ErrForm, func(r *impl.Repo) { r.Index = staged("x=12 y=3 z=23") })
	add(6, "works, and no other", impl.ErrForm, func(r *impl.Repo) { r.Other = "" })
	long, lines := strings.Repeat("a", maxText+1), strings.Repeat("\n", maxLines+1)
	for name, texts := range map[string][2]string{"the first too long": {long, ""}, "the last too long": {"", long}, "of too many lines": {lines, "a"}, "the last of too many lines": {"", lines[1:] + "a"}, "all too long": {long, long}} {
		add(7, "works: "+name, impl.ErrMany, func(r *impl.Repo) { r.Works = worked("x", texts[0], "y", texts[1]) })
	}
	for name, c := range faultyRules() {
		add(8, "rules: "+name, c.code, func(r *impl.Repo) { r.Rules = c.rules })
	}
	for _, time := range []int64{-1, maxRepoTime + 1, math.MinInt64, math.MaxInt64, -maxRepoTime, 1 << 32} {
		add(9, fmt.Sprintf("time %d", time), impl.ErrRange, func(r *impl.Repo) { r.Time = time })
	}
	return spoils
}

func wantRepoFault(t *testing.T, name string, r impl.Repo, code int64) {
	t.Helper()
	if got := impl.RepoFault(r); got != code || got != repoFaultByWords(r) {
		t.Errorf("%s: RepoFault = %d, want %d", name, got, code)
	}
}

func TestRepoFault(t *testing.T) {
	m, o := idNamed("m"), idNamed("o")
	for name, change := range map[string]func(r *impl.Repo){
		"as it is":         func(r *impl.Repo) {},
		"nothing but here": func(r *impl.Repo) { *r = impl.Repo{Here: "main"} },
		"empty lists": func(r *impl.Repo) {
			*r = impl.Repo{Store: []impl.Object{}, Branches: []impl.Branch{}, Here: "x", Index: []impl.Entry{}, Works: []impl.Work{}, Rules: []impl.Rule{}}
		},
		"here is no branch":               func(r *impl.Repo) { r.Here = "none" },
		"no branches":                     func(r *impl.Repo) { r.Branches = nil },
		"as many branches as may be":      func(r *impl.Repo) { r.Branches = branchesNumbered(maxBranches, o) },
		"branches that begin one another": func(r *impl.Repo) { r.Branches = pointing("a", m, "a-", o, "aa", m, "b", m) },
		"other is the head":               func(r *impl.Repo) { r.Other = m },
		"a history as long as may be":     func(r *impl.Repo) { r.Branches = pointing("a", idNumbered(maxHistory-1)) },
		"other as long as may be":         func(r *impl.Repo) { r.Other = idNumbered(maxHistory - 1) },
		"other, and nothing clashes":      func(r *impl.Repo) { r.Works, r.Index = nil, staged("a=0 b=0") },
		"other, and no index":             func(r *impl.Repo) { r.Works, r.Index = nil, nil },
		"no other":                        func(r *impl.Repo) { r.Other, r.Works, r.Index = "", nil, staged("a=0 b=0") },
		"files that are taken":            func(r *impl.Repo) { r.Other, r.Works, r.Index = "", nil, staged("a=0 a/b=0") },
		"as many entries as may be":       func(r *impl.Repo) { r.Works, r.Index = nil, fullIndex(maxEntries, "0") },
		"works as long as may be": func(r *impl.Repo) {
			r.Works = worked("x", strings.Repeat("a", maxText), "y", strings.Repeat("\n", maxLines))
		},
		"works that are empty":      func(r *impl.Repo) { r.Works = worked("x", "", "y", "\x00") },
		"as many rules as may be":   func(r *impl.Repo) { r.Rules = fullRules(maxRules) },
		"no rules":                  func(r *impl.Repo) { r.Rules = nil },
		"time 0":                    func(r *impl.Repo) { r.Time = 0 },
		"time 1":                    func(r *impl.Repo) { r.Time = 1 },
		"the last time but one":     func(r *impl.Repo) { r.Time = maxRepoTime - 1 },
		"the last time":             func(r *impl.Repo) { r.Time = maxRepoTime },
		"as many objects as may be": func(r *impl.Repo) { r.Store = withOthers(maxObjects, r.Store...) },
		"a ring": func(r *impl.Repo) {
			r.Store, r.Branches, r.Other = append(r.Store[:0:0], shaped("m:o o:m")...), pointing("a", m), o
		},
	} {
		r := soundRepo()
		change(&r)
		wantRepoFault(t, name, r, impl.OK)
	}
}

func TestRepoFaultTellsItsCodes(t *testing.T) {
	spoils := repoSpoils()
	ranks := map[int]int{}
	for _, one := range spoils {
		r := soundRepo()
		one.spoil(&r)
		wantRepoFault(t, one.name, r, one.code)
		ranks[one.rank]++
		// A fault that is asked ahead is told, whatever is behind it: each one ahead of all behind it, and of every seventh one alone.
		behind := slices.DeleteFunc(slices.Clone(spoils), func(other repoSpoil) bool { return other.rank <= one.rank })
		all := soundRepo()
		for i, other := range behind {
			other.spoil(&all)
			if i%7 != ranks[one.rank]%7 {
				continue
			}
			r := soundRepo()
			other.spoil(&r)
			one.spoil(&r)
			wantRepoFault(t, one.name+", and "+other.name, r, one.code)
		}
		one.spoil(&all)
		wantRepoFault(t, one.name+", and all behind it", all, one.code)
	}
	if len(ranks) != 10 {
		t.Errorf("ranks %v", ranks)
	}
}

// anyCalls: calls of every function, with right and with wrong words.
func anyCalls() []repoCall {
	calls := []repoCall{{"abort", "", ""}, {"status", "", ""}}
	for _, text := range []string{"new\n", strings.Repeat("a", maxText+1)} {
		for _, path := range []string{"x", "z", "new", "", "a b"} {
			calls = append(calls, repoCall{"put", path, text}, repoCall{"resolve", path, text}, repoCall{"drop", path, ""})
		}
	}
	for _, name := range []string{"main", "dev", "new", "", "A"} {
		calls = append(calls, repoCall{"switch", name, ""}, repoCall{"merge", name, ""}, repoCall{"commit", name + "\n", ""}, repoCall{"commit", name, ""})
	}
	return calls
}

func TestAllAskTheRepoFaultFirst(t *testing.T) {
	lines := []string{"put x y", "drop z", "commit c", "switch dev", "merge dev", "resolve x y", "abort", "status", "", "wink", "put", "commit a\n"}
	for _, one := range repoSpoils() {
		r := soundRepo()
		one.spoil(&r)
		if head := impl.HeadOf(r); head != "" {
			t.Errorf("%s: HeadOf = %q", one.name, head)
		}
		for _, call := range anyCalls() {
			if got := call.made(r); !sameRepoResult(got, refused(one.code)) {
				t.Errorf("%s: %v: %d, %q, want %d", one.name, call, got.Code, got.Said, one.code)
			}
		}
		for _, line := range lines {
			if got := impl.StepRepo(r, line); !sameRepoResult(got, refused(one.code)) {
				t.Errorf("%s: StepRepo %q: %d, %q, want %d", one.name, line, got.Code, got.Said, one.code)
			}
		}
		for _, text := range []string{"", "status\n", strings.Join(lines, "\n"), strings.Repeat("a", maxScript+1), strings.Repeat("\n", maxCommands+1)} {
			if got := impl.RunRepo(r, text); !sameRepoResult(got, refused(one.code)) {
				t.Errorf("%s: RunRepo %.40q: %d, %q, want %d", one.name, text, got.Code, got.Said, one.code)
			}
		}
	}
}

func TestHeadOf(t *testing.T) {
	r := standing(told("a x=1|", "b:a x=2|", "c:b"), "main=a dev=b ma=c mainx=c")
	for here, letter := range map[string]string{"main": "a", "dev": "b", "ma": "c", "mainx": "c"} {
		r.Here = here
		if head := impl.HeadOf(r); head != idNamed(letter) {
			t.Errorf("at %s: %q", here, head)
		}
	}
	for _, here := range []string{"none", "m", "de", "devx", "mainxx", idNamed("a")} {
		r.Here = here
		if head := impl.HeadOf(r); head != "" {
			t.Errorf("at %s: %q", here, head)
		}
	}
	r = soundRepo()
	if head := impl.HeadOf(r); head != idNamed("m") {
		t.Errorf("while merging: %q", head)
	}
	if head := impl.HeadOf(impl.Repo{}); head != "" {
		t.Errorf("of nothing: %q", head)
	}
}

// wantChanged: a call without a code, of which nothing else than this is changed: the index and works, told as tellFilesOf tells them, and how many objects are new.
func wantChanged(t *testing.T, name string, r impl.Repo, got impl.RepoResult, files string, objects int) {
	t.Helper()
	if told := tellFilesOf(got.Repo); got.Code != impl.OK || told != files || len(got.Repo.Store) != len(r.Store)+objects {
		t.Errorf("%s: %d, %d objects more: %q, want %d: %q", name, got.Code, len(got.Repo.Store)-len(r.Store), told, objects, files)
	}
	rest := got.Repo
	rest.Store, rest.Index, rest.Works, rest.Rules = r.Store, r.Index, r.Works, r.Rules
	if got.Said != "" || !sameRepo(rest, r) {
		t.Errorf("%s: %q, more is changed: %s", name, got.Said, tellRepo(got.Repo))
	}
}

// wantRefused: a code, and nothing beside it.
func wantRefused(t *testing.T, name string, got impl.RepoResult, code int64) {
	t.Helper()
	if !sameRepoResult(got, refused(code)) {
		t.Errorf("%s: %d, %q, %s, want %d", name, got.Code, got.Said, tellRepo(got.Repo), code)
	}
}

func TestPutFile(t *testing.T) {
	fresh := impl.NewRepo("main").Repo
	some := standing(told("a b=1| d*=2| d-=3|"), "main=a")
	clash := merging("x=o|,*a|,b| z=s|")
	for _, c := range []struct {
		name       string
		r          impl.Repo
		path, text string
		want       string
		objects    int
	}{
		{"the first one", fresh, "a", "x\ny\n", "a 0 1:x|y|", 1},
		{"an empty one", fresh, "a", "", "a 0 1:", 1},
		{"a deep one", fresh, "a/b/c/d", "x", "a/b/c/d 0 1:x", 1},
		{"ahead of all", some, "a", "new\n", "a 0 1:new|, b 0 1:1|, d 0 2:2|, d- 0 1:3|", 1},
		{"between two", some, "c/e", "new\n", "b 0 1:1|, c/e 0 1:new|, d 0 2:2|, d- 0 1:3|", 1},
		{"between two that begin alike", some, "d--", "new\n", "b 0 1:1|, d 0 2:2|, d- 0 1:3|, d-- 0 1:new|", 1},
		{"behind all", some, "e", "new\n", "b 0 1:1|, d 0 2:2|, d- 0 1:3|, e 0 1:new|", 1},
		{"within another one", some, "d/e", "new\n", "b 0 1:1|, d 0 2:2|, d- 0 1:3|, d/e 0 1:new|", 1},
		{"one that is there", some, "b", "new\n", "b 0 1:new|, d 0 2:2|, d- 0 1:3|", 1},
		{"one that is there keeps its mode", some, "d", "new\n", "b 0 1:1|, d 0 2:new|, d- 0 1:3|", 1},
		{"one that is there, the same", some, "d", "2\n", "b 0 1:1|, d 0 2:2|, d- 0 1:3|", 0},
		{"a blob that is there", some, "c", "2\n", "b 0 1:1|, c 0 1:2|, d 0 2:2|, d- 0 1:3|", 0},
		{"one beside a clash", clash, "y", "new\n", "x 1 1:o|, x 2 2:a|, x 3 1:b|, y 0 1:new|, z 0 1:s|, x=work of x|", 1},
		{"one within a clash", clash, "x/y", "o\n", "x 1 1:o|, x 2 2:a|, x 3 1:b|, x/y 0 1:o|, z 0 1:s|, x=work of x|", 0},
		{"one that is settled beside a clash", clash, "z", "new\n", "x 1 1:o|, x 2 2:a|, x 3 1:b|, z 0 1:new|, x=work of x|", 1},
		{"a binary one", fresh, "a", "\x00", "a 0 1:\x00", 1},
		{"as many bytes as may be", fresh, "a", strings.Repeat("x", maxText), "a 0 1:" + strings.Repeat("x", maxText), 1},
		{"as many lines as may be", fresh, "a", strings.Repeat("\n", maxLines), "a 0 1:" + strings.Repeat("|", maxLines), 1},
	} {
		wantChanged(t, c.name, c.r, wantCalled(t, c.name, c.r, "put", c.path, c.text), c.want, c.objects)
	}
}

func TestPutFileTellsItsCodes(t *testing.T) {
	clash := merging("x=o|,a|,b| z=s|")
	long, lines := strings.Repeat("a", maxText+1), strings.Repeat("\n", maxLines)+"a"
	form, many, busy, taken := int64(impl.ErrForm), int64(impl.ErrMany), int64(impl.ErrBusy), int64(impl.ErrClash)
	with := func(r impl.Repo, store []impl.Object, index []impl.Entry) impl.Repo {
		r.Store = store
		if index != nil {
			r.Index, r.Works = index, nil
		}
		return r
	}
	full, other := withOthers(maxObjects, clash.Store...), soundStore(append(slices.Clone(clash.Store), refusing("new\n"))...)
	both := withOthers(maxObjects, append(slices.Clone(clash.Store), refusing("new\n"))...)
	entries, near := fullIndex(maxEntries, "0"), fullIndex(maxEntries-1, "0")
	for _, c := range []struct {
		name       string
		r          impl.Repo
		path, text string
		code       int64
	}{
		{"no path", clash, "", "new\n", form},
		{"no path, and a text too long", clash, "", long, form},
		{"a path of five names", clash, "a/b/c/d/e", "new\n", form},
		{"a path with a blank", clash, "x ", "new\n", form},
		{"a path that ends with a slash", clash, "x/", long, form},
		{"a text too long", clash, "y", long, many},
		{"a text of too many lines", clash, "y", lines, many},
		{"a text too long, and it clashes", clash, "x", long, many},
		{"it clashes", clash, "x", "new\n", busy},
		{"it clashes at one stage", merging("x=-,-,b|"), "x", "new\n", busy},
		{"it clashes at the base", merging("x=o|,-,- y=s|"), "x", "new\n", busy},
		{"it clashes, and no room", with(clash, full, nil), "x", "new\n", busy},
		{"it clashes, and other data of the name", with(clash, other, nil), "x", "new\n", busy},
		{"no room", with(clash, full, nil), "y", "new\n", many},
		{"no room, it is there", with(clash, full, nil), "y", "a\n", impl.OK},
		{"room for one", with(clash, full[:maxObjects-1], nil), "y", "new\n", impl.OK},
		{"other data of the name", with(clash, other, nil), "y", "new\n", taken},
		{"other data of the name, and no room", with(clash, both, nil), "y", "new\n", taken},
		{"as many entries as may be", with(clash, clash.Store, entries), "new", "new\n", many},
		{"as many entries as may be, ahead of all", with(clash, clash.Store, entries), "a", "new\n", many},
		{"as many entries as may be, one is there", with(clash, clash.Store, entries), entries[70].Path, "new\n", impl.OK},
		{"as many entries as may be, the last is there", with(clash, clash.Store, entries), entries[maxEntries-1].Path, "new\n", impl.OK},
		{"room for one entry", with(clash, clash.Store, near), "new", "new\n", impl.OK},
		{"as many entries as may be, and other data", with(clash, other, entries), "new", "new\n", taken},
		{"as many entries as may be, and no path", with(clash, other, entries), ".", "new\n", form},
	} {
		got := wantCalled(t, c.name, c.r, "put", c.path, c.text)
		if got.Code != c.code {
			t.Errorf("%s: %d, want %d", c.name, got.Code, c.code)
		}
	}
	for _, path := range wrongNames {
		if !strings.Contains(path, "/") {
			wantRefused(t, "a wrong path", wantCalled(t, "a wrong path", clash, "put", path, "new\n"), form)
		}
	}
}

func TestDropFile(t *testing.T) {
	some := standing(told("a b=1| d*=2| d-=3| d.=4|"), "main=a")
	clash := merging("x=o|,a|,b| z=s|")
	for _, c := range []struct {
		name string
		r    impl.Repo
		path string
		want string
	}{
		{"the first", some, "b", "d 0 2:2|, d- 0 1:3|, d. 0 1:4|"},
		{"one between", some, "d", "b 0 1:1|, d- 0 1:3|, d. 0 1:4|"},
		{"the last", some, "d.", "b 0 1:1|, d 0 2:2|, d- 0 1:3|"},
		{"one beside a clash", clash, "z", "x 1 1:o|, x 2 1:a|, x 3 1:b|, x=work of x|"},
		{"the only one", standing(told("a b=1|"), "main=a"), "b", ""},
	} {
		wantChanged(t, c.name, c.r, wantCalled(t, c.name, c.r, "drop", c.path, ""), c.want, 0)
	}
	for _, c := range []struct {
		name string
		r    impl.Repo
		path string
	}{
		{"not there", some, "a"}, {"not there, a beginning", some, "d/"}, {"no path", some, ""}, {"a path with more behind", some, "b "}, {"great letters", some, "B"}, {"an id", some, some.Index[0].Id},
		{"nothing there", impl.NewRepo("main").Repo, "a"}, {"it clashes", clash, "x"}, {"it clashes at one stage", merging("x=-,a|,-"), "x"}, {"it clashes at the base", merging("x=o|,-,-"), "x"}, {"a directory", standing(told("a b/c=1|"), "main=a"), "b"}, {"far too long", some, strings.Repeat("b", 100000)},
	} {
		wantRefused(t, c.name, wantCalled(t, c.name, c.r, "drop", c.path, ""), impl.ErrNone)
	}
}

// wantCommit: the commit that the head is now.
func wantCommit(t *testing.T, name string, r impl.Repo, parents []string, time int64, note string) {
	t.Helper()
	object := impl.GetObject(r.Store, impl.KindCommit, impl.HeadOf(r))
	c := impl.DecodeCommit(object.Object.Data)
	if c.Code != impl.OK || !slices.Equal(c.Commit.Parents, parents) || c.Commit.Time != time || c.Commit.Note != note {
		t.Errorf("%s: %+v, want %q, %d, %q", name, c, parents, time, note)
	}
	if files := impl.CommitFiles(r.Store, impl.HeadOf(r)); !slices.Equal(files.Files, impl.IndexFiles(r.Index).Files) {
		t.Errorf("%s: its files are %+v", name, files)
	}
	if r.Other != "" || r.Time != time+1 {
		t.Errorf("%s: %s", name, tellRepo(r))
	}
}

func TestCommitRepo(t *testing.T) {
	store := told("a x=1|", "b:a x=2| y=1|")
	a, b := idNamed("a"), idNamed("b")
	for _, c := range []struct {
		name     string
		branches string
		other    string
		parents  []string
	}{
		{"no parent", "", "", nil},
		{"no parent, other branches", "dev=a mainx=b", "", nil},
		{"the head", "main=a", "", []string{a}},
		{"the head, among others", "dev=b main=a z=b", "", []string{a}},
		{"the head and other", "main=a", b, []string{a, b}},
		{"other ahead of the head by its id", "main=b", a, []string{b, a}},
		{"other is the head", "main=a", a, []string{a}},
		{"other alone", "dev=a", b, []string{b}},
	} {
		r := standing(store, c.branches)
		r.Other = c.other
		for _, index := range []string{"", "x=0", "a=0 d/e=0 x=0"} {
			r.Index = staged(index)
			for _, note := range []string{"", "a note", " ", strings.Repeat("n", 60)} {
				name := fmt.Sprintf("%s, %q, %q", c.name, index, note)
				got := wantCalled(t, name, r, "commit", note, "")
				if got.Code != impl.OK || got.Said != "" || got.Repo.Here != "main" || !slices.Equal(got.Repo.Index, r.Index) || got.Repo.Works != nil || got.Repo.Rules != nil {
					t.Fatalf("%s: %d, %q, %s", name, got.Code, got.Said, tellRepo(got.Repo))
				}
				wantCommit(t, name, got.Repo, c.parents, r.Time, note)
				others := func(r impl.Repo) []impl.Branch {
					return slices.DeleteFunc(slices.Clone(r.Branches), func(branch impl.Branch) bool { return branch.Name == "main" })
				}
				if !slices.Equal(others(r), others(got.Repo)) {
					t.Errorf("%s: other branches are %v", name, got.Repo.Branches)
				}
			}
		}
	}
}

func TestCommitRepoTellsItsCodes(t *testing.T) {
	store := told("m x=1| y=1|", "o x=2|")
	long := strings.Repeat("n", 61)
	sound := standing(store, "main=m dev=o")
	changed := func(change func(r *impl.Repo)) impl.Repo {
		r := sound
		change(&r)
		return r
	}
	// What a commit of these would be, so that other data can have its name.
	made := impl.CommitRepo(changed(func(r *impl.Repo) { r.Index = staged("d/e=0 x=0") }), "").Repo
	var trees []impl.Object
	for _, object := range made.Store {
		if object.Kind == impl.KindTree && !slices.Contains(store, object) {
			trees = append(trees, object)
		}
	}
	stolen := laidAt(impl.HeadOf(made), "other than ")
	many, busy, wrong, taken, text, clash := int64(impl.ErrMany), int64(impl.ErrBusy), int64(impl.ErrRange), int64(impl.ErrTaken), int64(impl.ErrText), int64(impl.ErrClash)
	full := func(objects int, more ...impl.Object) []impl.Object {
		return withOthers(objects, append(slices.Clone(store), more...)...)
	}
	if len(trees) != 2 || len(made.Store) != len(store)+3 {
		t.Fatalf("%d trees, %d objects", len(trees), len(made.Store))
	}
	two := staged("d/e=0 x=0")
	for _, c := range []struct {
		name string
		r    impl.Repo
		note string
		code int64
	}{
		{"it clashes", merging("x=o|,a|,b|"), "", busy},
		{"it clashes, and files that are taken", merging("x=s| x/y=s| z=o|,a|,-"), "", busy},
		{"it clashes, at the last time", func() impl.Repo { r := merging("x=o|,a|,b|"); r.Time = maxRepoTime; return r }(), long, busy},
		{"files that are taken", changed(func(r *impl.Repo) { r.Index = staged("a=0 a/b=0") }), "", taken},
		{"files that are taken, at the last time", changed(func(r *impl.Repo) { r.Index, r.Time = staged("a=0 a/b=0"), maxRepoTime }), long, taken},
		{"too many files", changed(func(r *impl.Repo) { r.Index = fullIndex(maxFiles+1, "0") }), "", many},
		{"as many files as may be", changed(func(r *impl.Repo) { r.Index = fullIndex(maxFiles, "0") }), "", impl.OK},
		{"the last time", changed(func(r *impl.Repo) { r.Time = maxRepoTime }), "", wrong},
		{"the last time, and a wrong note", changed(func(r *impl.Repo) { r.Time = maxRepoTime }), long, wrong},
		{"the last time but one", changed(func(r *impl.Repo) { r.Time = maxRepoTime - 1 }), "", impl.OK},
		{"time 0", changed(func(r *impl.Repo) { r.Time = 0 }), "", impl.OK},
		{"a note too long", sound, long, text},
		{"a note of a line feed", sound, "a\nb", text},
		{"a note of a byte above 126", sound, "a\x7f", text},
		{"a note of a byte 0", sound, "\x00", text},
		{"a wrong note, and no room", changed(func(r *impl.Repo) { r.Store = full(maxObjects) }), "\n", text},
		{"no room", changed(func(r *impl.Repo) { r.Store = full(maxObjects) }), "", many},
		{"room for the commit", changed(func(r *impl.Repo) { r.Store = full(maxObjects - 1) }), "", impl.OK},
		{"room for two of three", changed(func(r *impl.Repo) { r.Store, r.Index = full(maxObjects-2), two }), "", many},
		{"room for three of three", changed(func(r *impl.Repo) { r.Store, r.Index = full(maxObjects-3), two }), "", impl.OK},
		{"room for one, the trees are there", changed(func(r *impl.Repo) { r.Store, r.Index = full(maxObjects-1, trees...), two }), "", impl.OK},
		{"other data of a tree's name", changed(func(r *impl.Repo) { r.Store, r.Index = full(50, clashWith(trees[0])), two }), "", clash},
		{"other data of the other tree's name", changed(func(r *impl.Repo) { r.Store, r.Index = full(50, clashWith(trees[1])), two }), "", clash},
		{"other data of the commit's name", changed(func(r *impl.Repo) { r.Store, r.Index = full(50, stolen), two }), "", clash},
		{"other data of the commit's name, another note", changed(func(r *impl.Repo) { r.Store, r.Index = full(50, stolen), two }), "x", impl.OK},
		{"as many branches as may be, a new one", changed(func(r *impl.Repo) { r.Branches = branchesNumbered(maxBranches, idNamed("m")) }), "", many},
		{"as many branches as may be, and a wrong note", changed(func(r *impl.Repo) { r.Branches = branchesNumbered(maxBranches, idNamed("m")) }), "\n", text},
		{"as many branches as may be, one is there", changed(func(r *impl.Repo) { r.Branches, r.Here = branchesNumbered(maxBranches, idNamed("m")), "n00007" }), "", impl.OK},
		{"as many branches as may be but one", changed(func(r *impl.Repo) { r.Branches = branchesNumbered(maxBranches-1, idNamed("m")) }), "", impl.OK},
	} {
		got := wantCalled(t, c.name, c.r, "commit", c.note, "")
		if got.Code != c.code {
			t.Errorf("%s: %d, want %d", c.name, got.Code, c.code)
		}
	}
}

func TestCommitRepoOfWhatIsThere(t *testing.T) {
	first := scripted("put a x", "commit 0")
	again := impl.Repo{Store: first.Store, Here: "main", Index: first.Index}
	got := wantCalled(t, "once more", again, "commit", "0", "")
	if got.Code != impl.OK || impl.HeadOf(got.Repo) != impl.HeadOf(first) || !slices.Equal(got.Repo.Store, first.Store) || got.Repo.Time != 1 {
		t.Errorf("once more: %s", tellRepo(got.Repo))
	}
	// Nothing needs to have changed.
	second := wantCalled(t, "nothing changed", first, "commit", "0", "")
	if second.Code != impl.OK || len(second.Repo.Store) != len(first.Store)+1 || second.Repo.Time != 2 {
		t.Errorf("nothing changed: %s", tellRepo(second.Repo))
	}
	empty := wantCalled(t, "nothing at all", impl.NewRepo("main").Repo, "commit", "", "")
	if empty.Code != impl.OK || len(empty.Repo.Store) != 2 || len(impl.CommitFiles(empty.Repo.Store, impl.HeadOf(empty.Repo)).Files) != 0 {
		t.Errorf("nothing at all: %s", tellRepo(empty.Repo))
	}
}

// busyRepos: repositories with the branches main, dev and top (which comes from main) that are busy, each in one way alone.
func busyRepos() map[string]impl.Repo {
	codes, trees := treesOfCodes()
	store := soundStore(append(told("m a=1| b*=2| d/c=3|", "o a=2|", "n:m a=2|"), trees...)...)
	repos := map[string]impl.Repo{}
	add := func(name string, change func(r *impl.Repo)) {
		r := standing(store, "main=m dev=o top=n")
		change(&r)
		repos[name] = r
	}
	at := func(i int, change func(entry *impl.Entry)) func(r *impl.Repo) {
		return func(r *impl.Repo) {
			r.Index = slices.Clone(r.Index)
			change(&r.Index[i])
		}
	}
	add("other", func(r *impl.Repo) { r.Other = idNamed("o") })
	add("other is the head", func(r *impl.Repo) { r.Other = idNamed("m") })
	add("other is what is asked for", func(r *impl.Repo) { r.Other = idNamed("n") })
	add("a file more", func(r *impl.Repo) {
		r.Index = append(slices.Clone(r.Index), impl.Entry{Path: "z", Mode: 1, Id: "b0001"})
	})
	add("a file more, ahead", func(r *impl.Repo) { r.Index = append([]impl.Entry{{Path: "-", Mode: 1, Id: "b0001"}}, r.Index...) })
	add("a file less", func(r *impl.Repo) { r.Index = slices.Delete(slices.Clone(r.Index), 1, 2) })
	add("the last less", func(r *impl.Repo) { r.Index = r.Index[:2] })
	add("no file", func(r *impl.Repo) { r.Index = nil })
	add("another mode", at(0, func(entry *impl.Entry) { entry.Mode = impl.ModeRun }))
	add("another mode, not to be run", at(1, func(entry *impl.Entry) { entry.Mode = impl.ModeFile }))
	add("another id", at(2, func(entry *impl.Entry) { entry.Id = "b0001" }))
	add("another path", at(2, func(entry *impl.Entry) { entry.Path = "d/d" }))
	add("the files of another branch", func(r *impl.Repo) { r.Index = indexAtByWords(store, idNamed("n")).Entries })
	add("files that are taken", func(r *impl.Repo) { r.Index = staged("a=0 a/b=0") })
	add("too many files", func(r *impl.Repo) { r.Index = fullIndex(maxFiles+1, "0") })
	for tree, code := range codes {
		if code == impl.OK {
			continue
		}
		for _, index := range []string{"", "x=0"} {
			add(fmt.Sprintf("a head of the code %d at %s, %q", code, tree, index), func(r *impl.Repo) {
				r.Store = soundStore(append(slices.Clone(store), withTree("h", "", tree))...)
				r.Branches, r.Index = withBranch(r.Branches, "main", idNamed("h")), staged(index)
			})
		}
	}
	clash := merging("x=o|,a|,b|")
	clash.Branches = withBranch(clash.Branches, "top", idNamed("o"))
	repos["it clashes"] = clash
	return repos
}

func TestWhatIsBusy(t *testing.T) {
	repos := busyRepos()
	if len(repos) < 20 {
		t.Errorf("only %d", len(repos))
	}
	for name, r := range repos {
		for _, branch := range []string{"main", "dev", "top", "new"} {
			wantRefused(t, name, wantCalled(t, name, r, "switch", branch, ""), impl.ErrBusy)
		}
		for _, branch := range []string{"main", "dev", "top"} {
			wantRefused(t, name, wantCalled(t, name, r, "merge", branch, ""), impl.ErrBusy)
		}
		// What is asked ahead.
		for _, branch := range []string{"", "A", "a/b"} {
			wantRefused(t, name, wantCalled(t, name, r, "switch", branch, ""), impl.ErrForm)
			wantRefused(t, name, wantCalled(t, name, r, "merge", branch, ""), impl.ErrNone)
		}
		wantRefused(t, name, wantCalled(t, name, r, "merge", "new", ""), impl.ErrNone)
		r.Here = "none"
		wantRefused(t, name+", no head", wantCalled(t, name, r, "merge", "dev", ""), impl.ErrNone)
	}
	// Without a head it is what is merged, and files that cannot be committed, alone.
	index := staged("a=0 b=0")
	for name, change := range map[string]func(r *impl.Repo){"other": func(r *impl.Repo) { r.Other = idNamed("o") }, "files that are taken": func(r *impl.Repo) { r.Index = staged("a=0 a/b=0") }, "too many files": func(r *impl.Repo) { r.Index = fullIndex(maxFiles+1, "0") }} {
		r := standing(told("o x=1|"), "dev=o")
		r.Index = index
		change(&r)
		for _, branch := range []string{"main", "dev", "new"} {
			wantRefused(t, name, wantCalled(t, name, r, "switch", branch, ""), impl.ErrBusy)
		}
	}
}

func TestSwitchTo(t *testing.T) {
	store := told("m a=1| b*=2|", "o d/c=3|", "n")
	a := standing(store, "main=m dev=o old=n top=m")
	headless := standing(store, "dev=o old=n")
	headless.Index = staged("x=0 y=0")
	m := idNamed("m")
	for _, c := range []struct {
		name, to string
		r        impl.Repo
		branches []impl.Branch
		files    string
	}{
		{"there", "dev", a, a.Branches, "d/c 0 1:3|"},
		{"there, no files", "old", a, a.Branches, ""},
		{"there, the same commit", "top", a, a.Branches, "a 0 1:1|, b 0 2:2|"},
		{"here", "main", a, a.Branches, "a 0 1:1|, b 0 2:2|"},
		{"new, ahead of all", "a", a, append(pointing("a", m), a.Branches...), "a 0 1:1|, b 0 2:2|"},
		{"new, between", "maine", a, slices.Insert(slices.Clone(a.Branches), 2, impl.Branch{Name: "maine", Id: m}), "a 0 1:1|, b 0 2:2|"},
		{"new, behind all", "z", a, append(slices.Clone(a.Branches), impl.Branch{Name: "z", Id: m}), "a 0 1:1|, b 0 2:2|"},
		{"no head, there", "dev", headless, headless.Branches, "d/c 0 1:3|"},
		{"no head, there, no files", "old", headless, headless.Branches, ""},
		{"no head, new", "new", headless, headless.Branches, "x 0 1:, y 0 2:"},
		{"no head, here", "main", headless, headless.Branches, "x 0 1:, y 0 2:"},
		{"nothing there", "new", impl.NewRepo("main").Repo, nil, ""},
	} {
		got := wantCalled(t, c.name, c.r, "switch", c.to, "")
		want := c.r
		want.Here, want.Branches, want.Index = c.to, c.branches, got.Repo.Index
		if got.Code != impl.OK || got.Said != "" || !sameRepo(got.Repo, want) || tellFilesOf(got.Repo) != c.files {
			t.Errorf("%s: %d, %q, %s", c.name, got.Code, got.Said, tellRepo(got.Repo))
		}
	}
	for _, name := range wrongNames {
		for _, r := range []impl.Repo{a, headless} {
			wantRefused(t, "a wrong name", wantCalled(t, "a wrong name", r, "switch", name, ""), impl.ErrForm)
		}
	}
}

func TestSwitchToTellsItsCodes(t *testing.T) {
	codes, trees := treesOfCodes()
	for tree, code := range codes {
		for _, branches := range []string{"main=m dev=o", "dev=o"} {
			r := standing(soundStore(append(slices.Clone(trees), slices.Concat(told("m x=1|"), []impl.Object{withTree("o", "", tree)})...)...), branches)
			got := wantCalled(t, tree, r, "switch", "dev", "")
			if got.Code != code {
				t.Errorf("%s, %s: %d, want %d", branches, tree, got.Code, code)
			}
		}
	}
	store, m := told("m x=1|", "o"), idNamed("m")
	full := standing(store, "")
	full.Branches = append(branchesNumbered(maxBranches-1, idNamed("o")), impl.Branch{Name: "z", Id: m})
	wantCode := func(name string, r impl.Repo, to string, code int64) {
		t.Helper()
		if got := wantCalled(t, name, r, "switch", to, ""); got.Code != code {
			t.Errorf("%s: %d, want %d", name, got.Code, code)
		}
	}
	wantCode("as many branches as may be, no head", full, "new", impl.OK)
	wantCode("as many branches as may be, no head, there", full, "z", impl.OK)
	full.Here, full.Index = "z", indexAtByWords(store, m).Entries
	wantCode("as many branches as may be, new", full, "new", impl.ErrMany)
	wantCode("as many branches as may be, there", full, "n00003", impl.OK)
	wantCode("as many branches as may be, here", full, "z", impl.OK)
	wantCode("as many branches as may be, a wrong name", full, "Z", impl.ErrForm)
	full.Index = nil
	wantCode("as many branches as may be, busy", full, "new", impl.ErrBusy)
	full.Index, full.Branches = indexAtByWords(store, m).Entries, full.Branches[1:]
	wantCode("as many branches as may be but one", full, "new", impl.OK)
}

func TestMergeBranchOfOneThatComesFromTheOther(t *testing.T) {
	store := told("a x=1| y*=1|", "b:a x=2|", "c:b d/z*=3|", "e:ac x=1|")
	for _, c := range []struct {
		name, here, theirs, said, files string
	}{
		{"itself", "a", "a", "already", "x 0 1:1|, y 0 2:1|"},
		{"a parent", "b", "a", "already", "x 0 1:2|"},
		{"from far", "c", "a", "already", "d/z 0 2:3|"},
		{"a second parent", "e", "b", "already", "x 0 1:1|"},
		{"forward", "a", "b", "forward", "x 0 1:2|"},
		{"far forward", "a", "c", "forward", "d/z 0 2:3|"},
		{"forward to who comes from both", "b", "e", "forward", "x 0 1:1|"},
	} {
		r := standing(store, "main="+c.here+" dev="+c.theirs+" z=a")
		r.Rules = fullRules(5)
		got := wantCalled(t, c.name, r, "merge", "dev", "")
		want := r
		if c.said == "forward" {
			want.Branches, want.Index = withBranch(r.Branches, "main", idNamed(c.theirs)), indexAtByWords(store, idNamed(c.theirs)).Entries
		}
		if !sameRepoResult(got, impl.RepoResult{Said: c.said, Repo: want}) || tellFilesOf(got.Repo) != c.files {
			t.Errorf("%s: %d, %q, %s", c.name, got.Code, got.Said, tellRepo(got.Repo))
		}
	}
	r := standing(store, "main=b")
	if got := wantCalled(t, "here", r, "merge", "main", ""); !sameRepoResult(got, impl.RepoResult{Said: "already", Repo: r}) {
		t.Errorf("here: %d, %q, %s", got.Code, got.Said, tellRepo(got.Repo))
	}
	// Nothing is asked of blobs, where nothing is put together.
	bare := standing(withoutKind(store, impl.KindBlob), "main=a dev=c")
	if got := wantCalled(t, "no blobs", bare, "merge", "dev", ""); got.Said != "forward" {
		t.Errorf("no blobs: %d, %q", got.Code, got.Said)
	}
}

func TestMergeBranchOfTwo(t *testing.T) {
	fork := func(ours string, theirs string) []impl.Object {
		return told("o w=1| x=1|2|3| y=1| z=1|", "a:o "+ours, "b:o "+theirs)
	}
	clash := func(path string, ours string, theirs string) string {
		return path + "=" + clashedOver("1|", ours, theirs)
	}
	for _, c := range []struct {
		name, ours, theirs, rules string
		said, files               string
		objects                   int
	}{
		{"each its own", "w=2| x=1|2|3| y=1| z=1|", "w=1| x=1|2|3| y=2| z=1|", "", "merged 0", "w 0 1:2|, x 0 1:1|2|3|, y 0 1:2|, z 0 1:1|", 0},
		{"both the same", "w=2| x=1|2|3| y=1| z=1|", "w=2| x=1|2|3| y=1| z=1| zz=1|", "", "merged 0", "w 0 1:2|, x 0 1:1|2|3|, y 0 1:1|, z 0 1:1|, zz 0 1:1|", 0},
		{"texts that merge", "w=1| x=0|2|3| y=1| z=1|", "w=1| x=1|2|4| y=1| z=1|", "", "merged 0", "w 0 1:1|, x 0 1:0|2|4|, y 0 1:1|, z 0 1:1|", 1},
		{"all gone", "", "w=1| x=1|2|3|", "", "merged 0", "", 0},
		{"one clashes", "w=2| x=1|2|3| y=1| z=1|", "w=3| x=1|2|3| y=1| z=1|", "", "merged 1", "w 1 1:1|, w 2 1:2|, w 3 1:3|, x 0 1:1|2|3|, y 0 1:1|, z 0 1:1|, " + clash("w", "2|", "3|"), 0},
		{"gone there", "w=2| x=1|2|3| y=1| z=1|", "x=1|2|3| y=1| z=1|", "", "merged 1", "w 1 1:1|, w 2 1:2|, x 0 1:1|2|3|, y 0 1:1|, z 0 1:1|, w=2|", 0},
		{"two clash", "w=2| x=1|2|3| y=1| z=2|", "w=3| x=1|2|3| y=1| z=4|", "", "merged 2", "w 1 1:1|, w 2 1:2|, w 3 1:3|, x 0 1:1|2|3|, y 0 1:1|, z 1 1:1|, z 2 1:2|, z 3 1:4|, " + clash("w", "2|", "3|") + ", " + clash("z", "2|", "4|"), 0},
		{"other rules", "w=2| x=1|2|3| y=1| z=2|", "w=3| x=1|2|3| y=1| z=4|", "1|,2|,5|=6| 2|,1|,3|=7|", "merged 2", "w 1 1:1|, w 2 1:2|, w 3 1:3|, x 0 1:1|2|3|, y 0 1:1|, z 1 1:1|, z 2 1:2|, z 3 1:4|, " + clash("w", "2|", "3|") + ", " + clash("z", "2|", "4|"), 0},
		{"a rule of the first", "w=2| x=1|2|3| y=1| z=2|", "w=3| x=1|2|3| y=1| z=4|", "1|,2|,3|=23|", "merged 1", "w 0 1:23|, x 0 1:1|2|3|, y 0 1:1|, z 1 1:1|, z 2 1:2|, z 3 1:4|, " + clash("z", "2|", "4|"), 1},
		{"a rule of the last, turned round", "w=2| x=1|2|3| y=1| z=2|", "w=3| x=1|2|3| y=1| z=4|", "1|,4|,2|=2|", "merged 1", "w 1 1:1|, w 2 1:2|, w 3 1:3|, x 0 1:1|2|3|, y 0 1:1|, z 0 1:2|, " + clash("w", "2|", "3|"), 0},
		{"rules of all", "w=2| x=1|2|3| y=1| z=2|", "w=3| x=1|2|3| y=1| z=4|", "1|,4|,2|=24| 1|,2|,3|=23|", "merged 0", "w 0 1:23|, x 0 1:1|2|3|, y 0 1:1|, z 0 1:24|", 2},
		{"one rule of two", "w=2| x=1|2|3| y=1| z=2|", "w=3| x=1|2|3| y=1| z=3|", "1|,2|,3|=23|", "merged 0", "w 0 1:23|, x 0 1:1|2|3|, y 0 1:1|, z 0 1:23|", 1},
		{"a rule of one between", "w=2| x=1|2|3| y=2| z=2|", "w=3| x=1|2|3| y=5| z=3|", "1|,2|,5|=25|", "merged 2", "w 1 1:1|, w 2 1:2|, w 3 1:3|, x 0 1:1|2|3|, y 0 1:25|, z 1 1:1|, z 2 1:2|, z 3 1:3|, " + clash("w", "2|", "3|") + ", " + clash("z", "2|", "3|"), 1},
		{"texts that merge, and a rule", "w=2| x=0|2|3| y=1| z=1|", "w=3| x=1|2|4| y=1| z=1|", "1|,2|,3|=23|", "merged 0", "w 0 1:23|, x 0 1:0|2|4|, y 0 1:1|, z 0 1:1|", 2},
		{"a rule, and two modes", "w=2| x=1|2|3| y=1| z=1|", "w*=3| x=1|2|3| y=1| z=1|", "1|,2|,3|=23|", "merged 1", "w 1 1:1|, w 2 1:2|, w 3 2:3|, x 0 1:1|2|3|, y 0 1:1|, z 0 1:1|, " + clash("w", "2|", "3|"), 0},
	} {
		r := standing(fork(c.ours, c.theirs), "main=a dev=b old=o")
		r.Rules = learnt(c.rules)
		got := wantCalled(t, c.name, r, "merge", "dev", "")
		if got.Code != impl.OK || got.Said != c.said || tellFilesOf(got.Repo) != c.files || len(got.Repo.Store) != len(r.Store)+c.objects {
			t.Errorf("%s: %d, %q, %d objects more: %s\nwant %q, %d: %s", c.name, got.Code, got.Said, len(got.Repo.Store)-len(r.Store), tellFilesOf(got.Repo), c.said, c.objects, c.files)
		}
		want := got.Repo
		want.Branches, want.Here, want.Other, want.Rules, want.Time = r.Branches, r.Here, idNamed("b"), r.Rules, r.Time
		if !sameRepo(got.Repo, want) {
			t.Errorf("%s: more is changed: %s", c.name, tellRepo(got.Repo))
		}
		aborted := wantCalled(t, c.name, got.Repo, "abort", "", "")
		aborted.Repo.Store = r.Store
		if !sameRepo(aborted.Repo, r) {
			t.Errorf("%s: aborted: %s", c.name, tellRepo(aborted.Repo))
		}
	}
	// A merge of commits that have nothing in common.
	r := standing(told("a x=1|", "b y=2|"), "main=a dev=b")
	if got := wantCalled(t, "no base", r, "merge", "dev", ""); got.Said != "merged 0" || tellFilesOf(got.Repo) != "x 0 1:1|, y 0 1:2|" || got.Repo.Other != idNamed("b") {
		t.Errorf("no base: %d, %q, %s", got.Code, got.Said, tellRepo(got.Repo))
	}
}

func TestMergeBranchTellsItsCodes(t *testing.T) {
	fork := told("o x=1|2|3| y=1|", "a:o x=0|2|3| y=1|", "b:o x=1|2|4| y=1|", "c:o x=1|2|3| y=2|", "d:o x=1|2|3| y=3|")
	made := "0\n2\n4\n"
	rules := learnt("1|,2|,3|=23|")
	more := func(objects ...impl.Object) []impl.Object { return append(slices.Clone(fork), objects...) }
	codes, trees := treesOfCodes()
	none, many, clash := int64(impl.ErrNone), int64(impl.ErrMany), int64(impl.ErrClash)
	for _, c := range []struct {
		name     string
		store    []impl.Object
		branches string
		code     int64
	}{
		{"no such branch", fork, "main=a top=b", none},
		{"a branch that begins so", fork, "main=a devx=b de=b", none},
		{"no branch", fork, "", none},
		{"no head", fork, "dev=a", none},
		{"room for one", withOthers(maxObjects-1, fork...), "main=a dev=b", impl.OK},
		{"no room", withOthers(maxObjects, fork...), "main=a dev=b", many},
		{"no room, it is there", withOthers(maxObjects, more(objectOf(1, made))...), "main=a dev=b", impl.OK},
		{"no room, forward", withOthers(maxObjects, fork...), "main=o dev=b", impl.OK},
		{"no room, already", withOthers(maxObjects, fork...), "main=b dev=o", impl.OK},
		{"other data of its name", soundStore(more(refusing(made))...), "main=a dev=b", clash},
		{"a rule, room for one", withOthers(maxObjects-1, fork...), "main=c dev=d", impl.OK},
		{"a rule, no room", withOthers(maxObjects, fork...), "main=c dev=d", many},
		{"a rule, no room, it is there", withOthers(maxObjects, more(objectOf(1, "23\n"))...), "main=c dev=d", impl.OK},
		{"a rule, other data of its name", soundStore(more(refusing("23\n"))...), "main=c dev=d", clash},
		{"a rule, other data of its name, no room", withOthers(maxObjects, more(refusing("23\n"))...), "main=d dev=c", clash},
		{"no rule for it, other data of its name", soundStore(more(refusing("23\n"))...), "main=c dev=b", impl.OK},
		{"no blob of the base", withoutBlob(fork, "1|2|3|"), "main=a dev=b", none},
		{"no blob of ours", withoutBlob(fork, "0|2|3|"), "main=a dev=b", none},
		{"no blob of theirs", withoutBlob(fork, "1|2|4|"), "main=a dev=b", none},
		{"a path that is taken", told("o x=1|", "a:o x=1| y=1|", "b:o x=1| y/z=1|"), "main=a dev=b", impl.ErrTaken},
		{"bases that are too many", crossing(map[string]string{"a": "", "b": "", "c": "", "d": "", "e": ""}, "x=1|", "x=2|"), "main=y dev=z", many},
	} {
		r := standing(c.store, c.branches)
		r.Rules = rules
		got := wantCalled(t, c.name, r, "merge", "dev", "")
		if got.Code != c.code {
			t.Errorf("%s: %d, want %d", c.name, got.Code, c.code)
		}
	}
	for tree, code := range codes {
		store := soundStore(append(slices.Clone(trees), slices.Concat(fork, []impl.Object{withTree("h", "", tree), withTree("i", "a", tree)})...)...)
		for _, theirs := range []string{"h", "i"} {
			got := wantCalled(t, tree, standing(store, "main=a dev="+theirs), "merge", "dev", "")
			if got.Code != code {
				t.Errorf("%s, %s: %d, want %d", theirs, tree, got.Code, code)
			}
		}
	}
	for _, name := range wrongNames {
		wantRefused(t, "a wrong name", wantCalled(t, "a wrong name", standing(fork, "main=a dev=b"), "merge", name, ""), none)
	}
}

func TestMergeBranchOfMoreThanCanBeCommitted(t *testing.T) {
	both := told("o", "a:o "+manyFiles("p", 60), "b:o "+manyFiles("q", 60))
	r := wantCalled(t, "many files", standing(both, "main=a dev=b"), "merge", "dev", "")
	if r.Said != "merged 0" || len(r.Repo.Index) != 2*maxFiles {
		t.Errorf("many files: %d, %q", r.Code, r.Said)
	}
	wantRefused(t, "many files", wantCalled(t, "many files", r.Repo, "commit", "", ""), impl.ErrMany)
	if r := wantCalled(t, "many files", r.Repo, "abort", "", ""); len(r.Repo.Index) != maxFiles {
		t.Errorf("many files, aborted: %d, %s", r.Code, tellRepo(r.Repo))
	}
	// As many paths as may be that clash, all of which have a rule but the last one.
	var words [3]string
	for i := range maxFiles {
		for side, letter := range []string{"o", "a", "b"} {
			words[side] += fmt.Sprintf("f%02d=%s%d| ", i, letter, i%30)
		}
	}
	store := told("o "+words[0], "a:o "+words[1], "b:o "+words[2])
	merging := standing(store, "main=a dev=b")
	for i := range 29 {
		merging.Rules = impl.LearnRule(merging.Rules, normalByWords(fmt.Sprintf("o%d\n", i), fmt.Sprintf("b%d\n", i), fmt.Sprintf("a%d\n", i)).Text, "settled\n").Rules
	}
	got := wantCalled(t, "many rules", merging, "merge", "dev", "")
	if got.Said != "merged 2" || !slices.Equal(workPaths(got.Repo.Works), []string{"f29", "f59"}) || len(got.Repo.Store) != len(store)+1 {
		t.Errorf("many rules: %d, %q, %s", got.Code, got.Said, tellRepo(got.Repo))
	}
}

func TestResolveFile(t *testing.T) {
	for _, c := range []struct {
		name, told, path, text string
		want                   string
		objects, rules         int
	}{
		{"all three", "x=o|,a|,b|", "x", "new\n", "x 0 1:new|", 1, 1},
		{"all three, a blob that is there", "x=o|,a|,b|", "x", "b\n", "x 0 1:b|", 0, 1},
		{"all three, an empty text", "x=o|,a|,b|", "x", "", "x 0 1:", 1, 1},
		{"all three, a binary text", "x=o|,a|,b|", "x", "\x00", "x 0 1:\x00", 1, 1},
		{"the mode of the base", "x=*o|,a|,b|", "x", "new\n", "x 0 2:new|", 1, 1},
		{"not the mode of the sides", "x=o|,*a|,*b|", "x", "new\n", "x 0 1:new|", 1, 1},
		{"base and ours", "x=*o|,a|,-", "x", "new\n", "x 0 2:new|", 1, 0},
		{"base and ours, not to be run", "x=o|,*a|,-", "x", "new\n", "x 0 1:new|", 1, 0},
		{"base and theirs", "x=*o|,-,b|", "x", "new\n", "x 0 2:new|", 1, 0},
		{"base and theirs, not to be run", "x=o|,-,*b|", "x", "new\n", "x 0 1:new|", 1, 0},
		{"ours and theirs", "x=-,*a|,b|", "x", "new\n", "x 0 2:new|", 1, 1},
		{"ours and theirs, not to be run", "x=-,a|,*b|", "x", "new\n", "x 0 1:new|", 1, 1},
		{"the base alone", "x=*o|,-,-", "x", "new\n", "x 0 2:new|", 1, 0},
		{"ours alone", "x=-,*a|,-", "x", "new\n", "x 0 2:new|", 1, 0},
		{"theirs alone", "x=-,-,*b|", "x", "new\n", "x 0 2:new|", 1, 0},
		{"binary, no rule", "x=o|,a\x00,b|", "x", "new\n", "x 0 1:new|", 1, 0},
		{"a binary base, no rule", "x=\x00,a|,b|", "x", "new\n", "x 0 1:new|", 1, 0},
		{"nothing that clashes in it, no rule", "x=o|,a|,*a|", "x", "new\n", "x 0 1:new|", 1, 0},
		{"the first of several", "w=o|,a|,b| x=-,a|,*b| y=o|,-,b| z=s|", "w", "new\n", "w 0 1:new|, x 2 1:a|, x 3 2:b|, y 1 1:o|, y 3 1:b|, z 0 1:s|, x=work of x|, y=work of y|", 1, 1},
		{"one between", "w=o|,a|,b| x=-,a|,*b| y=o|,-,b| z=s|", "x", "new\n", "w 1 1:o|, w 2 1:a|, w 3 1:b|, x 0 1:new|, y 1 1:o|, y 3 1:b|, z 0 1:s|, w=work of w|, y=work of y|", 1, 1},
		{"the last of several", "w=o|,a|,b| x=-,a|,*b| y=o|,-,b| z=s|", "y", "new\n", "w 1 1:o|, w 2 1:a|, w 3 1:b|, x 2 1:a|, x 3 2:b|, y 0 1:new|, z 0 1:s|, w=work of w|, x=work of x|", 1, 0},
		{"as long as may be", "x=o|,a|,b|", "x", strings.Repeat("n", maxText), "x 0 1:" + strings.Repeat("n", maxText), 1, 1},
	} {
		r := merging(c.told)
		got := wantCalled(t, c.name, r, "resolve", c.path, c.text)
		wantChanged(t, c.name, r, got, c.want, c.objects)
		if len(got.Repo.Rules) != c.rules || c.rules == 1 && got.Repo.Rules[0] != (impl.Rule{Pre: impl.PreOf(r.Store, r.Index, c.path).Text, Post: c.text}) {
			t.Errorf("%s: rules %+v", c.name, got.Repo.Rules)
		}
	}
	// The last one resolved leaves what is merged to be committed.
	r := merging("x=o|,a|,b| y=o|,-,b| z=s|")
	for _, path := range []string{"y", "x"} {
		wantRefused(t, "not yet", wantCalled(t, "not yet", r, "commit", "", ""), impl.ErrBusy)
		r = wantCalled(t, "one by one", r, "resolve", path, "new "+path+"\n").Repo
	}
	if r.Other != idNamed("o") || len(r.Works) != 0 || tellFilesOf(r) != "x 0 1:new x|, y 0 1:new y|, z 0 1:s|" {
		t.Errorf("all resolved: %s", tellRepo(r))
	}
	wantCommit(t, "all resolved", wantCalled(t, "all resolved", r, "commit", "done", "").Repo, []string{idNamed("m"), idNamed("o")}, 9, "done")
}

func TestResolveFileLearns(t *testing.T) {
	r := merging("x=o|,a|,b| y=o|,b|,a| z=o|,a|,c|")
	pre, other := "! 2 2 2\na\no\nb\n", "! 2 2 2\na\no\nc\n"
	r.Rules = []impl.Rule{{Pre: "! 2", Post: "first"}, {Pre: pre, Post: "old\n"}, {Pre: "! 3", Post: "last"}}
	with := func(posts ...string) []impl.Rule {
		rules := []impl.Rule{r.Rules[0], {Pre: pre, Post: posts[0]}}
		for _, post := range posts[1:] {
			rules = append(rules, impl.Rule{Pre: other, Post: post})
		}
		return append(rules, r.Rules[2])
	}
	for _, c := range []struct {
		path, text string
		want       []impl.Rule
	}{
		{"x", "new\n", with("new\n")}, {"y", "new\n", with("new\n")}, {"x", "old\n", with("old\n")}, {"x", "", with("")}, {"z", "new\n", with("old\n", "new\n")},
	} {
		got := wantCalled(t, c.path, r, "resolve", c.path, c.text)
		if got.Code != impl.OK || !slices.Equal(got.Repo.Rules, c.want) {
			t.Errorf("%s, %q: %d, %+v, want %+v", c.path, c.text, got.Code, got.Repo.Rules, c.want)
		}
	}
	// As many rules as may be: one that is there may be put in place.
	r.Rules = append([]impl.Rule{{Pre: pre, Post: "old\n"}}, fullRules(maxRules-1)...)
	if got := wantCalled(t, "full, it is there", r, "resolve", "y", "new\n"); got.Code != impl.OK || got.Repo.Rules[0].Post != "new\n" || len(got.Repo.Rules) != maxRules {
		t.Errorf("full, it is there: %d", got.Code)
	}
	wantRefused(t, "full", wantCalled(t, "full", r, "resolve", "z", "new\n"), impl.ErrMany)
	r.Rules = r.Rules[:maxRules-1]
	if got := wantCalled(t, "full but one", r, "resolve", "z", "new\n"); got.Code != impl.OK || len(got.Repo.Rules) != maxRules {
		t.Errorf("full but one: %d", got.Code)
	}
	bare := merging("x=o|,a|,- y=\x00,a|,b|")
	bare.Rules = fullRules(maxRules)
	for _, path := range []string{"x", "y"} {
		if got := wantCalled(t, "full, no rule to learn", bare, "resolve", path, "new\n"); got.Code != impl.OK || !slices.Equal(got.Repo.Rules, bare.Rules) {
			t.Errorf("full, no rule to learn: %s: %d", path, got.Code)
		}
	}
	// Without one of its blobs nothing is known of a clash.
	for _, text := range []string{"o|", "a|", "c|"} {
		gone := r
		gone.Store, gone.Rules = withoutBlob(r.Store, text), nil
		if got := wantCalled(t, "without "+text, gone, "resolve", "z", "new\n"); got.Code != impl.OK || len(got.Repo.Rules) != 0 {
			t.Errorf("without %s: %d, %+v", text, got.Code, got.Repo.Rules)
		}
	}
}

func TestResolveFileTellsItsCodes(t *testing.T) {
	r := merging("x=o|,a|,b| z=s|")
	long, lines := strings.Repeat("a", maxText+1), strings.Repeat("\n", maxLines+1)
	full, other, both := r, r, r
	full.Store, other.Store = withOthers(maxObjects, r.Store...), soundStore(append(slices.Clone(r.Store), refusing("new\n"))...)
	both.Store, both.Rules = other.Store, fullRules(maxRules)
	none, many, clash := int64(impl.ErrNone), int64(impl.ErrMany), int64(impl.ErrClash)
	for _, c := range []struct {
		name       string
		r          impl.Repo
		path, text string
		code       int64
	}{
		{"settled", r, "z", "new\n", none}, {"not there", r, "y", "new\n", none}, {"no path", r, "", "new\n", none}, {"a wrong path", r, "x ", "new\n", none}, {"settled, and a text too long", r, "z", long, none}, {"nothing there", impl.NewRepo("main").Repo, "x", "new\n", none}, {"settled, and no room", full, "z", "new\n", none}, {"a path that begins so", r, "x/y", "new\n", none},
		{"a text too long", r, "x", long, many}, {"a text of too many lines", r, "x", lines, many}, {"a text too long, and no room", full, "x", long, many},
		{"no room", full, "x", "new\n", many}, {"no room, it is there", full, "x", "a\n", impl.OK},
		{"other data of its name", other, "x", "new\n", clash}, {"other data of its name, and too many rules", both, "x", "new\n", clash}, {"too many rules", both, "x", "newer\n", many},
	} {
		got := wantCalled(t, c.name, c.r, "resolve", c.path, c.text)
		if got.Code != c.code {
			t.Errorf("%s: %d, want %d", c.name, got.Code, c.code)
		}
	}
}

func TestAbortMerge(t *testing.T) {
	r := merging("x=o|,*a|,b| z=s|")
	r.Rules = fullRules(3)
	want := r
	want.Index, want.Works, want.Other = indexAtByWords(r.Store, idNamed("m")).Entries, nil, ""
	for name, change := range map[string]func(r *impl.Repo){
		"it clashes":        func(r *impl.Repo) {},
		"nothing clashes":   func(r *impl.Repo) { r.Index, r.Works = staged("q=0"), nil },
		"no index":          func(r *impl.Repo) { r.Index, r.Works = nil, nil },
		"other is the head": func(r *impl.Repo) { r.Other = idNamed("m") },
		"files taken":       func(r *impl.Repo) { r.Index, r.Works = staged("q=0 q/r=0"), nil },
	} {
		merging := r
		change(&merging)
		if got := wantCalled(t, name, merging, "abort", "", ""); !sameRepoResult(got, impl.RepoResult{Repo: want}) || tellFilesOf(got.Repo) != "x 0 1:1|, y 0 1:1|" {
			t.Errorf("%s: %d, %q, %s", name, got.Code, got.Said, tellRepo(got.Repo))
		}
	}
	headless := r
	headless.Here = "none"
	want.Here, want.Index = "none", nil
	if got := wantCalled(t, "no head", headless, "abort", "", ""); !sameRepoResult(got, impl.RepoResult{Repo: want}) {
		t.Errorf("no head: %d, %s", got.Code, tellRepo(got.Repo))
	}
	for name, r := range map[string]impl.Repo{"nothing there": impl.NewRepo("main").Repo, "nothing merged": standing(told("m x=1|"), "main=m"), "files changed": scripted("put x y", "commit 0", "put x z"), "aborted already": want} {
		wantRefused(t, name, wantCalled(t, name, r, "abort", "", ""), impl.ErrNone)
	}
	codes, trees := treesOfCodes()
	for tree, code := range codes {
		r := standing(soundStore(append(slices.Clone(trees), withTree("m", "", tree))...), "main=m")
		r.Other, r.Index = idNamed("m"), staged("q=0")
		if got := wantCalled(t, tree, r, "abort", "", ""); got.Code != code {
			t.Errorf("%s: %d, want %d", tree, got.Code, code)
		}
	}
}

func TestStatusText(t *testing.T) {
	some := standing(told("m a=1| b*=2| d/c=3|"), "main=m")
	changed := func(words string, other string, works ...string) impl.Repo {
		r := some
		r.Index, _ = clashing(words)
		r.Other = other
		for _, path := range works {
			r.Works = append(r.Works, impl.Work{Path: path})
		}
		return r
	}
	m := idNamed("m")
	headless := changed("a=1| z=2|", "")
	headless.Here = "new"
	merged := changed("a=-,1|,- z=2|", m, "a")
	merged.Here = "new"
	for _, c := range []struct {
		name string
		r    impl.Repo
		want string
	}{
		{"nothing", impl.NewRepo("x").Repo, "on x|"},
		{"as it was", some, "on main|"},
		{"merging", changed("a=1| b=*2| d/c=3|", m), "on main|merging " + m + "|"},
		{"a new file", changed("a=1| a-=1| b=*2| d/c=3|", ""), "on main|change a-|"},
		{"another text", changed("a=9| b=*2| d/c=3|", ""), "on main|change a|"},
		{"another mode", changed("a=1| b=2| d/c=3|", ""), "on main|change b|"},
		{"another mode, to be run", changed("a=*1| b=*2| d/c=3|", ""), "on main|change a|"},
		{"one gone", changed("a=1| d/c=3|", ""), "on main|gone b|"},
		{"all gone", changed("", ""), "on main|gone a|gone b|gone d/c|"},
		{"a clash is no change and not gone", changed("a=1| b=-,2|,- d/c=3|", m, "b"), "on main|merging " + m + "|clash b|"},
		{"a clash of what is new", changed("a=1| b=*2| d/c=3| e=-,1|,2|", m, "e"), "on main|merging " + m + "|clash e|"},
		{"clashes in their order, once each", changed("a=1|,2|,3| b=1|,-,3| d/c=-,-,3|", m, "a", "b", "d/c"), "on main|merging " + m + "|clash a|clash b|clash d/c|"},
		{"changes in their order", changed("0=1| a=2| b=3| d/c=4| e=1|", ""), "on main|change 0|change a|change b|change d/c|change e|"},
		{"all of them", changed("-=1| a=7|,8|,9| d/c=4| z=1|,-,2|", m, "a", "z"), "on main|merging " + m + "|change -|change d/c|gone b|clash a|clash z|"},
		{"no head", headless, "on new|change a|change z|"},
		{"no head, merging", merged, "on new|merging " + m + "|change z|clash a|"},
		{"the beginning of a path", changed("a=1| b=*2| d=3|", ""), "on main|change d|gone d/c|"},
	} {
		got := impl.StatusText(c.r)
		if got != (impl.TextResult{Text: barred(c.want)}) {
			t.Errorf("%s: %d, %q, want %q", c.name, got.Code, got.Text, barred(c.want))
		}
		wantCalled(t, c.name, c.r, "status", "", "")
		if got := wantStepped(t, c.name, c.r, "status"); !sameRepo(got.Repo, c.r) {
			t.Errorf("%s: something has changed: %s", c.name, tellRepo(got.Repo))
		}
	}
	codes, trees := treesOfCodes()
	for tree, code := range codes {
		r := standing(soundStore(append(slices.Clone(trees), withTree("m", "", tree))...), "main=m")
		if got := impl.StatusText(r); got.Code != code || (got.Text == "") != (code != impl.OK) {
			t.Errorf("%s: %+v, want %d", tree, got, code)
		}
		wantCalled(t, tree, r, "status", "", "")
		r.Here = "none"
		if got := impl.StatusText(r); got.Code != impl.OK {
			t.Errorf("%s, no head: %+v", tree, got)
		}
	}
}

// clashedOver: what two texts of one path come to over that of the base; all told as withBars tells them.
func clashedOver(base string, ours string, theirs string) string {
	return "<<<<<<<|" + ours + "^^^^^^^|" + base + "=======|" + theirs + ">>>>>>>|"
}

// steppingRepos: one that can be committed, switched and merged, one that clashes, and one that has nothing.
func steppingRepos() map[string]impl.Repo {
	clash := merging("x=o|,a|,b| y=o|,-,b| z=s|")
	return map[string]impl.Repo{
		"standing": standing(told("o x=1|", "m:o x=1| z=1|", "n:o x=2|"), "main=m dev=n old=o"),
		"merging":  clash,
		"new":      impl.NewRepo("main").Repo,
	}
}

func TestStepRepo(t *testing.T) {
	repos := steppingRepos()
	for _, c := range []struct {
		repo, line string
		call       repoCall
		said       string
	}{
		{"standing", "put a x", repoCall{"put", "a", "x"}, "ok"},
		{"standing", "put d/e one|two|", repoCall{"put", "d/e", "one\ntwo\n"}, "ok"},
		{"standing", "put a |", repoCall{"put", "a", "\n"}, "ok"},
		{"standing", "put a ||x||", repoCall{"put", "a", "\n\nx\n\n"}, "ok"},
		{"standing", "put a ", repoCall{"put", "a", ""}, "ok"},
		{"standing", "put a  ", repoCall{"put", "a", " "}, "ok"},
		{"standing", "put a  x", repoCall{"put", "a", " x"}, "ok"},
		{"standing", "put a x y  z ", repoCall{"put", "a", "x y  z "}, "ok"},
		{"standing", "put put put", repoCall{"put", "put", "put"}, "ok"},
		{"standing", "put a x\ny\n", repoCall{"put", "a", "x\ny\n"}, "ok"},
		{"standing", "put a \n", repoCall{"put", "a", "\n"}, "ok"},
		{"standing", "put a \x00\xff", repoCall{"put", "a", "\x00\xff"}, "ok"},
		{"standing", "put a \\n\t", repoCall{"put", "a", "\\n\t"}, "ok"},
		{"standing", "drop z", repoCall{"drop", "z", ""}, "ok"},
		{"standing", "commit note", repoCall{"commit", "note", ""}, "c"},
		{"standing", "commit ", repoCall{"commit", "", ""}, "c"},
		{"standing", "commit  ", repoCall{"commit", " ", ""}, "c"},
		{"standing", "commit a b  c ", repoCall{"commit", "a b  c ", ""}, "c"},
		{"standing", "commit a|b", repoCall{"commit", "a|b", ""}, "c"},
		{"standing", "switch dev", repoCall{"switch", "dev", ""}, "ok"},
		{"standing", "switch new", repoCall{"switch", "new", ""}, "ok"},
		{"standing", "switch main", repoCall{"switch", "main", ""}, "ok"},
		{"standing", "merge dev", repoCall{"merge", "dev", ""}, "merged 0"},
		{"standing", "merge old", repoCall{"merge", "old", ""}, "already"},
		{"standing", "status", repoCall{"status", "", ""}, "on main\n"},
		{"merging", "resolve x a|b|", repoCall{"resolve", "x", "a\nb\n"}, "ok"},
		{"merging", "resolve y ", repoCall{"resolve", "y", ""}, "ok"},
		{"merging", "resolve y  a b ", repoCall{"resolve", "y", " a b "}, "ok"},
		{"merging", "resolve y a\nb", repoCall{"resolve", "y", "a\nb"}, "ok"},
		{"merging", "abort", repoCall{"abort", "", ""}, "ok"},
		{"merging", "status", repoCall{"status", "", ""}, "on main\nmerging " + idNamed("o") + "\nchange z\nclash x\nclash y\n"},
		{"new", "commit first", repoCall{"commit", "first", ""}, "c"},
		{"new", "switch a", repoCall{"switch", "a", ""}, "ok"},
		{"new", "status", repoCall{"status", "", ""}, "on main\n"},
	} {
		r := repos[c.repo]
		got, want := wantStepped(t, c.repo, r, c.line), c.call.made(r)
		if got.Code != impl.OK || !sameRepo(got.Repo, want.Repo) {
			t.Errorf("%s: %q: %d, %s, want %d, %s", c.repo, c.line, got.Code, tellRepo(got.Repo), want.Code, tellRepo(want.Repo))
		}
		if c.said == "c" {
			c.said = impl.HeadOf(got.Repo)
		}
		if got.Said != c.said || got.Said == "" {
			t.Errorf("%s: %q says %q, want %q", c.repo, c.line, got.Said, c.said)
		}
	}
	forward := repos["standing"]
	forward.Here, forward.Index = "old", indexAtByWords(forward.Store, idNamed("o")).Entries
	if got := wantStepped(t, "forward", forward, "merge dev"); got.Said != "forward" {
		t.Errorf("forward: %d, %q", got.Code, got.Said)
	}
}

func TestStepRepoOfLinesThatAreNone(t *testing.T) {
	words := map[string][]string{"put": {"a", "x"}, "drop": {"z"}, "commit": {"n"}, "switch": {"dev"}, "merge": {"dev"}, "resolve": {"x", "a"}, "abort": nil, "status": nil}
	lines := []string{"", " ", "  ", "\n", "wink", "wink a", "a", "x y z", "|", "\x00", "ok", "!", "! 5", "help", "log", "put|a|x", "put\ta\tx", "\nstatus", "status\n", "abort\n", "status|", "status\r", "status\x00", "abort x", "status x", "status status", "abort abort", "switch dev dev", "merge dev old", "drop z z", "drop a b c", "switch a|b c", "put", "put ", "put  ", "put a", "put  x", "put  a x", "put   ", "resolve", "resolve x", "resolve ", "resolve  a", "resolve  x a", "commit", "drop", "drop ", "drop  z", "switch", "switch ", "switch  dev", "merge", "merge ", "merge  dev", "drop z ", "switch dev ", "merge dev ", "abort ", "status ", strings.Repeat("a", 100000), strings.Repeat(" ", 1000)}
	for word, rest := range words {
		line := strings.Join(append([]string{word}, rest...), " ")
		lines = append(lines, " "+line, "\n"+line, strings.ToUpper(line), strings.ToUpper(word[:1])+line[1:], word+line, word+"s"+line[len(word):], word+"\n"+line[len(word):], word+"\t"+line[len(word):], word+"x"+strings.Join(rest, ""), "x"+line)
		for i := range len(word) {
			lines = append(lines, word[:i], word[:i]+line[len(word):], word[i+1:]+line[len(word):])
		}
	}
	for name, r := range steppingRepos() {
		for _, line := range lines {
			if callIn(line).word != "" {
				t.Errorf("%q is a command", line)
			}
			wantRefused(t, fmt.Sprintf("%s: %.60q", name, line), wantStepped(t, name, r, line), impl.ErrText)
		}
	}
}

func TestStepRepoTellsTheCodesOfItsFunctions(t *testing.T) {
	repos := steppingRepos()
	long := strings.Repeat("a", maxText+1)
	for _, c := range []struct {
		repo, line string
		code       int64
	}{
		{"standing", "put A x", impl.ErrForm}, {"standing", "put a/b/c/d/e x", impl.ErrForm}, {"standing", "put a|b x", impl.ErrForm}, {"standing", "put a\n x", impl.ErrForm}, {"standing", "put a " + long, impl.ErrMany}, {"standing", "put a " + strings.Repeat("|", maxLines+1), impl.ErrMany}, {"merging", "put x y", impl.ErrBusy},
		{"standing", "drop a", impl.ErrNone}, {"standing", "drop z\n", impl.ErrNone}, {"merging", "drop x", impl.ErrNone}, {"standing", "drop z|", impl.ErrNone},
		{"merging", "commit x", impl.ErrBusy}, {"standing", "commit a\n", impl.ErrText}, {"standing", "commit " + long[:61], impl.ErrText}, {"standing", "commit \x7f", impl.ErrText},
		{"standing", "switch A", impl.ErrForm}, {"standing", "switch dev\n", impl.ErrForm}, {"merging", "switch dev", impl.ErrBusy},
		{"standing", "merge none", impl.ErrNone}, {"standing", "merge dev\n", impl.ErrNone}, {"standing", "merge A", impl.ErrNone}, {"merging", "merge dev", impl.ErrBusy}, {"new", "merge main", impl.ErrNone},
		{"merging", "resolve z x", impl.ErrNone}, {"merging", "resolve x " + long, impl.ErrMany}, {"standing", "resolve x y", impl.ErrNone}, {"merging", "resolve x\n y", impl.ErrNone},
		{"standing", "abort", impl.ErrNone}, {"new", "abort", impl.ErrNone},
	} {
		wantRefused(t, c.repo+": "+c.line, wantStepped(t, c.repo, repos[c.repo], c.line), c.code)
	}
}

func TestStepRepoOfEveryFewPieces(t *testing.T) {
	met := map[string]int{}
	for name, r := range steppingRepos() {
		for _, command := range []string{"put", "drop", "commit", "switch", "merge", "resolve", "abort", "status", ""} {
			for _, pieces := range listsOver([]string{" ", "x", "dev", "|", "\n", "status"}, 4) {
				line := command + strings.Join(pieces, "")
				got := wantStepped(t, name, r, line)
				met[fmt.Sprintf("%s %d", callIn(line).word, got.Code)]++
			}
		}
	}
	wantMet(t, met, 1, "put 0", "put 1", "put 8", "drop 0", "drop 4", "commit 0", "commit 5", "commit 8", "switch 0", "switch 1", "switch 8", "merge 0", "merge 4", "merge 8", "resolve 0", "resolve 4", "abort 0", "abort 4", "status 0", " 5")
}

func TestRunRepo(t *testing.T) {
	fresh := impl.NewRepo("main").Repo
	first := impl.HeadOf(scripted("put a x", "commit 0"))
	second := impl.HeadOf(scripted("put a x", "commit 0", "switch dev", "put a y", "commit 1"))
	for _, c := range []struct {
		name, text, said string
	}{
		{"nothing", "", ""},
		{"an empty line", "\n", "! 5\n"},
		{"empty lines", "\n\n\n", "! 5\n! 5\n! 5\n"},
		{"one", "put a x\n", "ok\n"},
		{"the last line without a line feed", "put a x", "ok\n"},
		{"two, the last without a line feed", "put a x\nstatus", "ok\non main\nchange a\n"},
		{"an empty line behind", "put a x\n\n", "ok\n! 5\n"},
		{"an empty line ahead", "\nput a x", "! 5\nok\n"},
		{"a blank at the end", "status \n", "! 5\n"},
		{"a carriage return", "status\r\n", "! 5\n"},
		{"status ends with a line feed already", "status\nstatus\n", "on main\non main\n"},
		{"all of a day", "put a x\ncommit 0\nswitch dev\nput a y\ncommit 1\nswitch main\nmerge dev\nmerge dev\nstatus\n", "ok\n" + first + "\nok\nok\n" + second + "\nok\nforward\nalready\non main\n"},
		{"codes of every kind", "wink\nput A x\ndrop a\nput a x\nput a/b x\ncommit 0\ndrop a/b\ncommit 0\nput b y\nswitch dev\nmerge main\nabort\nresolve a b\ncommit \x01\nput a " + strings.Repeat("|", 101) + "\n", "! 5\n! 1\n! 4\nok\nok\n! 7\nok\n" + first + "\nok\n! 8\n! 8\n! 4\n! 4\n! 5\n! 2\n"},
	} {
		got := wantRun(t, c.name, fresh, c.text)
		if got.Code != impl.OK || got.Said != c.said {
			t.Errorf("%s: %d, %q, want %q", c.name, got.Code, got.Said, c.said)
		}
	}
	for name, r := range steppingRepos() {
		for _, text := range []string{"", "\n", "wink\n\nput\n", "status", "abort\x00"} {
			if got := wantRun(t, name, r, text); !sameRepo(got.Repo, r) {
				t.Errorf("%s: %q changes something: %s", name, text, tellRepo(got.Repo))
			}
		}
	}
}

func TestRunRepoAtItsBounds(t *testing.T) {
	r := steppingRepos()["standing"]
	many := func(count int) string { return strings.Repeat("status\n", count) }
	long := func(size int) string { return "put a x\nput b " + strings.Repeat("y", size-len("put a x\nput b ")) }
	for _, c := range []struct {
		name, text string
		code       int64
		lines      int
	}{
		{"as many lines as may be", many(maxCommands), impl.OK, maxCommands},
		{"as many lines as may be, the last unended", many(maxCommands-1) + "status", impl.OK, maxCommands},
		{"one line too many", many(maxCommands + 1), impl.ErrMany, 0},
		{"one line too many, unended", many(maxCommands) + "s", impl.ErrMany, 0},
		{"as many empty lines as may be", strings.Repeat("\n", maxCommands), impl.OK, maxCommands},
		{"one empty line too many", strings.Repeat("\n", maxCommands+1), impl.ErrMany, 0},
		{"as many bytes as may be", long(maxScript), impl.OK, 2},
		{"one byte too many", long(maxScript + 1), impl.ErrMany, 0},
		{"one byte too many, a line feed", long(maxScript) + "\n", impl.ErrMany, 0},
		{"as many bytes as may be, a line feed", long(maxScript-1) + "\n", impl.OK, 2},
		{"far too many bytes", strings.Repeat("status", 100000), impl.ErrMany, 0},
		{"far too many lines", strings.Repeat("\n", 1000000), impl.ErrMany, 0},
		{"one line of as many bytes as may be", strings.Repeat("x", maxScript), impl.OK, 1},
	} {
		got := wantRun(t, c.name, r, c.text)
		if got.Code != c.code || strings.Count(got.Said, "\n") != c.lines {
			t.Errorf("%s: %d, %d lines, want %d, %d", c.name, got.Code, strings.Count(got.Said, "\n"), c.code, c.lines)
		}
		if c.code != impl.OK {
			wantRefused(t, c.name, got, c.code)
		}
	}
}

// wantCut asks of promise 15 that a script does in two parts what it does in one, wherever it is cut behind a line feed.
func wantCut(t *testing.T, name string, r impl.Repo, text string) {
	t.Helper()
	whole := impl.RunRepo(r, text)
	for at := range len(text) + 1 {
		if at > 0 && text[at-1] != '\n' {
			continue
		}
		first := impl.RunRepo(r, text[:at])
		second := impl.RunRepo(first.Repo, text[at:])
		if first.Code != impl.OK || second.Code != impl.OK || first.Said+second.Said != whole.Said || !sameRepo(second.Repo, whole.Repo) {
			t.Errorf("%s: cut at %d: %d, %q, %d, %q, %s\nwant %q, %s", name, at, first.Code, first.Said, second.Code, second.Said, tellRepo(second.Repo), whole.Said, tellRepo(whole.Repo))
		}
	}
}

func TestPromise15KnownScripts(t *testing.T) {
	day := "put a one|two|three|\nput b/c x|\ncommit 0\nswitch dev\nput a one|2|three|\ndrop b/c\ncommit 1\nswitch main\nput a one|II|three|\ncommit 2\n"
	for name, c := range map[string]struct{ script, said string }{
		"settled and committed":  {"merge dev\nstatus\ncommit x\nresolve a one|zwei|three|\nresolve a x\nstatus\ncommit m\nmerge dev\nswitch dev\nmerge main\nstatus\n", "merged 1|on main|merging OTHER|gone b/c|clash a|! 8|ok|! 4|on main|merging OTHER|change a|gone b/c|ID|already|ok|forward|on dev|"},
		"aborted":                {"merge dev\nput d e\nabort\nstatus\nabort\nmerge dev\nresolve a x\nabort\nstatus\n", "merged 1|ok|ok|on main|! 4|merged 1|ok|ok|on main|"},
		"settled once and again": {"merge dev\nresolve a one|zwei|three|\nabort\nmerge dev\nstatus\ncommit m\nmerge dev\n", "merged 1|ok|ok|merged 0|on main|merging OTHER|change a|gone b/c|ID|already|"},
		"settled the other way":  {"merge dev\nresolve a one|zwei|three|\nabort\nswitch dev\nmerge main\nstatus\nput a other|\nstatus\n", "merged 1|ok|ok|ok|merged 0|on dev|merging OTHER|change a|ok|on dev|merging OTHER|change a|"},
		"busy":                   {"put a x\nswitch dev\nmerge dev\nput a one|II|three|\nmerge dev\nswitch dev\nput a x\nput e x\ndrop a\nmerge main\n", "ok|! 8|! 8|ok|merged 1|! 8|! 8|ok|! 4|! 8|"},
	} {
		start := wantRun(t, name, impl.NewRepo("main").Repo, day)
		if strings.Contains(start.Said, "!") {
			t.Fatalf("%s: %q", name, start.Said)
		}
		got := wantRun(t, name, start.Repo, c.script)
		want := strings.Split(strings.TrimSuffix(c.said, "|"), "|")
		lines := strings.Split(strings.TrimSuffix(got.Said, "\n"), "\n")
		for i, line := range lines {
			id := line[strings.LastIndex(line, " ")+1:]
			if impl.IsId(id) && i < len(want) {
				want[i] = strings.NewReplacer("OTHER", id, "ID", id).Replace(want[i])
			}
		}
		if !slices.Equal(lines, want) {
			t.Errorf("%s: %q, want %q", name, lines, want)
		}
		wantCut(t, name, impl.NewRepo("main").Repo, day+c.script)
	}
}

// randomLine: a line that is likely to do something to the repository as it is.
func randomLine(random *rand.Rand, r impl.Repo, texts []string) string {
	paths, names := []string{"a", "b", "d/e", "d", "z"}, []string{"main", "dev", "x", "y", "none"}
	pick := func(list []string) string { return list[random.Intn(len(list))] }
	if clashes := impl.ClashesIn(r.Index).Lines; len(clashes) > 0 && random.Intn(2) == 0 {
		return "resolve " + pick(clashes) + " " + pick(texts)
	}
	if impl.IndexFiles(r.Index).Code == impl.ErrTaken && random.Intn(3) == 0 {
		return "drop " + pick([]string{"d", "d/e"})
	}
	if isBusyByWords(r) && random.Intn(3) == 0 {
		return "commit " + strconv.Itoa(random.Intn(10))
	}
	if len(r.Branches) > 0 && !isBusyByWords(r) && random.Intn(3) == 0 {
		return pick([]string{"switch ", "merge ", "merge "}) + r.Branches[random.Intn(len(r.Branches))].Name
	}
	switch kind := random.Intn(24); {
	case kind < 12:
		return "put " + pick(paths[:3]) + " " + pick(texts)
	case kind < 13:
		return "put " + pick(paths) + " " + pick(texts)
	case kind < 14:
		return "drop " + pick(paths)
	case kind < 17:
		return "switch " + pick(names)
	case kind < 19:
		return "merge " + pick(names)
	case kind < 20:
		return "resolve " + pick(paths) + " " + pick(texts)
	case kind < 21:
		return "abort"
	case kind < 22:
		return "commit " + pick(names)
	case kind < 23:
		return "status"
	}
	return pick([]string{"", "wink", "put a", "put A x", "switch A", "merge none", "commit \x01", "status ", "drop none", "put  x", " abort", "abort "})
}

// walk makes a script line by line, asks promise 15 behind each, and tells what was met.
func walk(t *testing.T, name string, random *rand.Rand, start impl.Repo, texts []string, met map[string]int) string {
	t.Helper()
	r, script := start, ""
	ahead := start.Index
	for i := range maxCommands {
		line := randomLine(random, r, texts)
		if len(script)+len(line)+1 > maxScript {
			break
		}
		script += line + "\n"
		step := wantStepped(t, fmt.Sprintf("%s, line %d", name, i), r, line)
		word, _, _ := strings.Cut(line, " ")
		met[fmt.Sprintf("%s %d", word, step.Code)]++
		if step.Code != impl.OK {
			continue
		}
		if said, count, _ := strings.Cut(step.Said, " "); word == "merge" {
			met["merge "+said+" "+count]++
			ahead = r.Index
		}
		wantMergeKept(t, fmt.Sprintf("%s, line %d", name, i), r, step.Repo, ahead, met)
		r = step.Repo
	}
	return script
}

// wantMergeKept asks promise 15 of merges: of one that is under way that it can be aborted, and of one that is committed that it is there already.
func wantMergeKept(t *testing.T, name string, before impl.Repo, after impl.Repo, ahead []impl.Entry, met map[string]int) {
	t.Helper()
	if after.Other != "" {
		aborted := impl.AbortMerge(after)
		want := after
		want.Other, want.Works, want.Index = "", nil, ahead
		if !sameRepoResult(aborted, impl.RepoResult{Repo: want}) {
			t.Errorf("%s: aborted it is %d, %s", name, aborted.Code, tellRepo(aborted.Repo))
		}
		met["aborted"]++
	}
	if before.Other == "" || after.Other != "" || after.Time == before.Time {
		return
	}
	for _, branch := range before.Branches {
		if branch.Id == before.Other {
			again := impl.MergeBranch(after, branch.Name)
			if !sameRepoResult(again, impl.RepoResult{Said: "already", Repo: after}) {
				t.Errorf("%s: merged again it is %d, %q, %s", name, again.Code, again.Said, tellRepo(again.Repo))
			}
			met["committed"]++
		}
	}
}

func TestPromise15RandomScripts(t *testing.T) {
	random := rand.New(rand.NewSource(42))
	met := map[string]int{}
	for round := range 80 {
		var texts []string
		for _, blob := range alikeBlobs(random, 3+round%5) {
			texts = append(texts, withoutFeeds(blob.Data))
		}
		start := impl.NewRepo("main").Repo
		if round%3 == 2 {
			start = standing(told("o a=1|2|3|4|5|6|7|8|9| b*=1| d/e=2|", "m:o a=1|2|x|4|5|6|7|8|9| b=2| d/e*=2|", "n:o a=1|2|y|4|5|6|7|8|9| b*=3| d/e=3| z=1|"), "main=m dev=n x=o")
		}
		if round%5 == 4 {
			start.Store = withOthers(150+random.Intn(50), start.Store...)
		}
		name := fmt.Sprintf("round %d", round)
		script := walk(t, name, random, start, texts, met)
		wantRun(t, name, start, script)
		if round%4 == 0 {
			wantCut(t, name, start, script)
		}
		// A last line that is not ended is one all the same.
		if got, want := impl.RunRepo(start, strings.TrimSuffix(script, "\n")), impl.RunRepo(start, script); !strings.HasSuffix(script, "\n\n") && !sameRepoResult(got, want) {
			t.Errorf("%s: the last line without its line feed: %d, %q", name, got.Code, got.Said)
		}
	}
	wantMet(t, met, 5, "put 0", "put 1", "put 2", "put 8", "drop 0", "drop 4", "commit 0", "commit 5", "commit 7", "commit 8", "switch 0", "switch 1", "switch 8", "merge 0", "merge 4", "merge 8", "resolve 0", "resolve 4", "abort 0", "abort 4", "status 0", "wink 5", "merge already ", "merge forward ", "merge merged 0", "merge merged 1", "merge merged 2", "aborted", "committed")
}

// withoutFeeds: a text as a line of a script tells it.
func withoutFeeds(text string) string {
	return strings.ReplaceAll(text, "\n", "|")
}

func TestHistoriesThatGetTooLong(t *testing.T) {
	r := impl.NewRepo("main").Repo
	for i := range maxHistory {
		got := impl.CommitRepo(r, "")
		if code := impl.RepoFault(got.Repo); got.Code != impl.OK || code != impl.OK {
			t.Fatalf("commit %d: %d, the fault %d", i, got.Code, code)
		}
		r = got.Repo
	}
	// A commit more is told, and is a fault then: nothing more is done.
	got := wantCalled(t, "one more", r, "commit", "", "")
	if got.Code != impl.OK || impl.RepoFault(got.Repo) != impl.ErrMany || impl.HeadOf(got.Repo) != "" {
		t.Errorf("one more: %d, %s", got.Code, tellRepo(got.Repo))
	}
	run := wantRun(t, "one more", r, "status\nput a x\ncommit 1\nstatus\nput b x\nwink\n")
	if lines := strings.Split(run.Said, "\n"); len(lines) != 7 || !impl.IsId(lines[2]) || !slices.Equal(slices.Delete(lines, 2, 3), []string{"on main", "ok", "! 2", "! 2", "! 2", ""}) {
		t.Errorf("one more: %q", run.Said)
	}
	wantRefused(t, "behind it", impl.RunRepo(run.Repo, "status\n"), impl.ErrMany)
	if len(run.Repo.Index) != 1 || impl.RepoFault(run.Repo) != impl.ErrMany {
		t.Errorf("behind it: %s", tellRepo(run.Repo))
	}
	// Other branches have histories of their own.
	row := rowOf(maxHistory - 1)
	two := standing(soundStore(append(told("a x=1|"), row...)...), "main=a")
	two.Branches = withBranch(two.Branches, "dev", idNumbered(maxHistory-2))
	if got := wantCalled(t, "two", two, "commit", "", ""); impl.RepoFault(got.Repo) != impl.OK {
		t.Errorf("two: %s", tellRepo(got.Repo))
	}
}

func TestStoresThatGetFull(t *testing.T) {
	// The second commit has room for its tree alone, and leaves the room to the next blob.
	r := impl.NewRepo("main").Repo
	r.Store = withOthers(maxObjects - 5)
	said := wantRun(t, "full", r, "put a x|\ncommit 0\nput a y|\ncommit 1\nput a z|\nput a x|\ncommit 2\nput b y|\nput c w|\nswitch dev\ndrop a\nstatus\n").Said
	lines := strings.Split(said, "\n")
	if len(lines) < 11 || !slices.Equal([]string{lines[0], lines[2], lines[3], lines[4], lines[5], lines[6], lines[7], lines[8], lines[9]}, []string{"ok", "ok", "! 2", "ok", "ok", "! 2", "ok", "! 2", "! 8"}) {
		t.Errorf("full: %q", lines)
	}
}

// repoCase: the arguments of the functions of chapter 14.
type repoCase struct {
	r      impl.Repo
	call   repoCall
	line   string
	script string
}

// anyRepoCases: arguments with and without faults, and with every function.
func anyRepoCases() []repoCase {
	repos := steppingRepos()
	ruled := merging("x=o|,a|,b| y=-,*b|,a| z=s| zz=*t|")
	ruled.Rules = learnt("o|,a|,b|=ab| o|,a|,c|=ac| ,a|,c|=ca|")
	clash := standing(told("o w=1| x=1|2|3| y=1|", "a:o w=2| x=0|2|3| y=2|", "b:o w=3| x=1|2|4| y=3|"), "main=a dev=b old=o")
	clash.Rules = learnt("1|,2|,3|=settled| 1|,2|,4|=other|")
	faulty, many := soundRepo(), soundRepo()
	faulty.Time, many.Branches = -1, branchesNumbered(maxBranches+1, idNamed("m"))
	var cases []repoCase
	for i, r := range []impl.Repo{repos["standing"], repos["merging"], repos["new"], ruled, clash, soundRepo(), faulty, many, {}} {
		for j, call := range []repoCall{{"put", "new", "text\n"}, {"put", "z", "text\n"}, {"drop", "z", ""}, {"commit", "a note", ""}, {"switch", "dev", ""}, {"switch", "fresh", ""}, {"switch", "main", ""}, {"merge", "dev", ""}, {"merge", "old", ""}, {"resolve", "x", "new\n"}, {"resolve", "y", "a\n"}, {"abort", "", ""}, {"status", "", ""}, {"put", "x", "a\n"}, {"commit", "\n", ""}, {"merge", "main", ""}} {
			line := strings.Join([]string{call.word, call.about, withoutFeeds(call.text)}, " ")
			cases = append(cases, repoCase{r, call, strings.TrimRight(line, " "), []string{"", "status\n", line, "put a b c|\ncommit x\nswitch dev\nmerge main\nwink", "resolve x x|\nresolve y y|\ncommit both\nmerge dev\n" + line}[(i+j)%5]})
		}
	}
	return cases
}

// tellRepos: what all functions of chapter 14 answer to these arguments, in words.
func tellRepos(c repoCase) string {
	return fmt.Sprintf("%d %#v %q %#v %#v %#v %#v", impl.RepoFault(c.r), impl.NewRepo(c.call.about), impl.HeadOf(c.r), c.call.made(c.r), impl.StatusText(c.r), impl.StepRepo(c.r, c.line), impl.RunRepo(c.r, c.script))
}

// clonedRepo: the same lists in other memory.
func clonedRepo(r impl.Repo) impl.Repo {
	r.Store, r.Branches, r.Index, r.Works, r.Rules = slices.Clone(r.Store), slices.Clone(r.Branches), slices.Clone(r.Index), slices.Clone(r.Works), slices.Clone(r.Rules)
	r.Here, r.Other = strings.Clone(r.Here), strings.Clone(r.Other)
	return r
}

func TestPromise1RepositoriesHangOnTheArgumentsAlone(t *testing.T) {
	cases := anyRepoCases()
	tell := func(i int) string {
		c := cases[i]
		c.r = clonedRepo(c.r)
		c.call = repoCall{strings.Clone(c.call.word), strings.Clone(c.call.about), strings.Clone(c.call.text)}
		c.line, c.script = strings.Clone(c.line), strings.Clone(c.script)
		return tellRepos(c)
	}
	answers := make([]string, len(cases))
	for i := range answers {
		answers[i] = tell(i)
	}
	// Backwards each call stands behind other ones than before.
	for i := len(answers) - 1; i >= 0; i-- {
		if tell(i) != answers[i] {
			t.Errorf("case %d: another answer at the second call", i)
		}
	}
	// Often, so that no order in which a map is gone through is seen.
	for i := 0; i < len(answers); i += 9 {
		for range 20 {
			if tell(i) != answers[i] {
				t.Errorf("case %d: another answer at another call", i)
			}
		}
	}
}

func TestPromise1NilAndEmptyListsOfARepository(t *testing.T) {
	for i, c := range anyRepoCases() {
		empty := c
		if len(c.r.Store) == 0 {
			empty.r.Store = []impl.Object{}
		}
		if len(c.r.Branches) == 0 {
			empty.r.Branches = []impl.Branch{}
		}
		if len(c.r.Index) == 0 {
			empty.r.Index = []impl.Entry{}
		}
		if len(c.r.Works) == 0 {
			empty.r.Works = []impl.Work{}
		}
		if len(c.r.Rules) == 0 {
			empty.r.Rules = []impl.Rule{}
		}
		if !sameRepoResult(c.call.made(c.r), empty.call.made(empty.r)) || !sameRepoResult(impl.RunRepo(c.r, c.script), impl.RunRepo(empty.r, c.script)) || impl.RepoFault(c.r) != impl.RepoFault(empty.r) {
			t.Errorf("case %d: nil and an empty list are not the same", i)
		}
	}
}

func TestPromise1RepositoriesChangeNoArgument(t *testing.T) {
	for i, c := range anyRepoCases() {
		// What lies behind a list in its memory is not the function's either.
		longer := clonedRepo(c.r)
		longer.Store, longer.Branches = append(longer.Store, impl.Object{Id: "behind", Kind: 7}), append(longer.Branches, impl.Branch{Name: "behind"})
		longer.Index, longer.Works, longer.Rules = append(longer.Index, impl.Entry{Path: "behind"}), append(longer.Works, impl.Work{Path: "behind"}), append(longer.Rules, impl.Rule{Pre: "behind"})
		kept := clonedRepo(longer)
		given := longer
		given.Store, given.Branches = longer.Store[:len(longer.Store)-1], longer.Branches[:len(longer.Branches)-1]
		given.Index, given.Works, given.Rules = longer.Index[:len(longer.Index)-1], longer.Works[:len(longer.Works)-1], longer.Rules[:len(longer.Rules)-1]
		c.r = given
		before := tellRepos(c)
		for _, call := range anyCalls() {
			call.made(given)
		}
		if !sameRepo(longer, kept) || tellRepos(c) != before {
			t.Errorf("case %d: a list was changed, or what lies behind it", i)
		}
	}
}

// textsOfRepo: all texts of a repository.
func textsOfRepo(r impl.Repo) []string {
	texts := slices.Concat(textsOfStore(r.Store), textsOfIndex(r.Index), textsOfRules(r.Rules), []string{r.Here, r.Other})
	for _, branch := range r.Branches {
		texts = append(texts, branch.Name, branch.Id)
	}
	for _, work := range r.Works {
		texts = append(texts, work.Path, work.Text)
	}
	return texts
}

func clearRepo(r impl.Repo) {
	clear(r.Store)
	clear(r.Branches)
	clear(r.Index)
	clear(r.Works)
	clear(r.Rules)
}

func TestPromise1RepositoriesAreNewMemory(t *testing.T) {
	looked := map[string]int{}
	for i, c := range anyRepoCases() {
		given := append(textsOfRepo(c.r), c.call.about, c.call.text, c.line, c.script)
		before := tellRepos(c)
		answers := map[string]impl.RepoResult{"StepRepo": impl.StepRepo(c.r, c.line), "RunRepo": impl.RunRepo(c.r, c.script), "NewRepo": impl.NewRepo(c.call.about)}
		// What status is told of here is the repository that was given.
		if c.call.word != "status" {
			answers[c.call.word] = c.call.made(c.r)
		}
		for name, r := range answers {
			wantNewTexts(t, fmt.Sprintf("case %d, %s", i, name), given, append(textsOfRepo(r.Repo), r.Said))
			looked[fmt.Sprintf("%s %v", name, r.Code == impl.OK)]++
			clearRepo(r.Repo)
		}
		wantNewTexts(t, fmt.Sprintf("case %d", i), given, []string{impl.HeadOf(c.r), impl.StatusText(c.r).Text})
		if tellRepos(c) != before {
			t.Errorf("case %d: an answer shares its lists with an argument, or with another answer", i)
		}
	}
	wantMet(t, looked, 1, "put true", "drop true", "commit true", "switch true", "merge true", "resolve true", "abort true", "StepRepo true", "RunRepo true", "NewRepo true", "put false", "merge false", "StepRepo false", "RunRepo false")
}
