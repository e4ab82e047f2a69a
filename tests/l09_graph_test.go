package tests

import (
	"fmt"
	"maps"
	"math"
	"math/rand"
	"slices"
	"strconv"
	"strings"
	"sync"
	"testing"

	"loop.example/g00172/impl"
)

const maxHistory = 100

func TestNumberOfHistories(t *testing.T) {
	if impl.MaxHistory != maxHistory {
		t.Errorf("MaxHistory = %d", impl.MaxHistory)
	}
}

// commitsByWords: all commits of a store by their ids, with the code of what cannot be read.
func commitsByWords(store []impl.Object) map[string]impl.CommitResult {
	all := map[string]impl.CommitResult{}
	for _, object := range store {
		if object.Kind == impl.KindCommit {
			all[object.Id] = decodeCommitByForm(object.Data)
		}
	}
	return all
}

func parentsByWords(all map[string]impl.CommitResult, id string) impl.LinesResult {
	read, ok := all[id]
	if !ok {
		return impl.LinesResult{Code: impl.ErrNone}
	}
	return impl.LinesResult{Code: read.Code, Lines: read.Commit.Parents}
}

// gotToByWords: every id that is got to, there or not, rising.
func gotToByWords(all map[string]impl.CommitResult, id string) []string {
	ids := []string{id}
	for at := 0; at < len(ids); at++ {
		for _, parent := range all[ids[at]].Commit.Parents {
			if !slices.Contains(ids, parent) {
				ids = append(ids, parent)
			}
		}
	}
	slices.Sort(ids)
	return ids
}

func historyByWords(all map[string]impl.CommitResult, id string) impl.LinesResult {
	ids := gotToByWords(all, id)
	if len(ids) > maxHistory {
		return impl.LinesResult{Code: impl.ErrMany}
	}
	for _, one := range ids {
		if code := parentsByWords(all, one).Code; code != impl.OK {
			return impl.LinesResult{Code: code}
		}
	}
	return impl.LinesResult{Lines: ids}
}

// basesByWords holds every commit of both histories against the whole history of every other one.
func basesByWords(all map[string]impl.CommitResult, a string, b string) impl.LinesResult {
	ofA, ofB := historyByWords(all, a), historyByWords(all, b)
	for _, r := range []impl.LinesResult{ofA, ofB} {
		if r.Code != impl.OK {
			return impl.LinesResult{Code: r.Code}
		}
	}
	both := slices.DeleteFunc(ofA.Lines, func(id string) bool { return !slices.Contains(ofB.Lines, id) })
	behind := map[string]bool{}
	for _, one := range both {
		for _, other := range gotToByWords(all, one) {
			behind[other] = behind[other] || other != one
		}
	}
	return impl.LinesResult{Lines: slices.DeleteFunc(slices.Clone(both), func(id string) bool { return behind[id] })}
}

func generationByWords(all map[string]impl.CommitResult, id string) impl.IntResult {
	history := historyByWords(all, id)
	if history.Code != impl.OK {
		return impl.IntResult{Code: history.Code}
	}
	for _, one := range history.Lines {
		for _, parent := range all[one].Commit.Parents {
			if slices.Contains(gotToByWords(all, parent), one) {
				return impl.IntResult{Code: impl.ErrForm}
			}
		}
	}
	known := map[string]int64{}
	var longest func(id string) int64
	longest = func(id string) int64 {
		if known[id] == 0 {
			most := int64(0)
			for _, parent := range all[id].Commit.Parents {
				most = max(most, longest(parent))
			}
			known[id] = most + 1
		}
		return known[id]
	}
	return impl.IntResult{Value: longest(id)}
}

// logByWords looks for the next one over and over.
func logByWords(all map[string]impl.CommitResult, id string) impl.TextResult {
	history := historyByWords(all, id)
	if history.Code != impl.OK {
		return impl.TextResult{Code: history.Code}
	}
	text := ""
	for left := history.Lines; len(left) > 0; {
		next := 0
		for i, one := range left {
			if all[one].Commit.Time >= all[left[next]].Commit.Time {
				next = i
			}
		}
		c := all[left[next]].Commit
		text += fmt.Sprintf("%s %d %s\n", left[next], c.Time, c.Note)
		left = slices.Delete(left, next, next+1)
	}
	return impl.TextResult{Text: text}
}

func commitFilesByWords(store []impl.Object, id string) impl.FilesResult {
	if code := storeFaultByWords(store); code != impl.OK {
		return impl.FilesResult{Code: code}
	}
	all := commitsByWords(store)
	if code := parentsByWords(all, id).Code; code != impl.OK {
		return impl.FilesResult{Code: code}
	}
	return readByWords(store, all[id].Commit.Tree)
}

func addByWords(store []impl.Object, files []impl.File, parents []string, time int64, note string) impl.StoreResult {
	c := impl.Commit{Tree: "t0000", Parents: parents, Time: time, Note: note}
	for _, code := range []int64{storeFaultByWords(store), filesFaultByWords(files), commitFaultByWords(c)} {
		if code != impl.OK {
			return impl.StoreResult{Code: code}
		}
	}
	for _, parent := range parents {
		if getByWords(store, impl.KindCommit, parent).Code != impl.OK {
			return impl.StoreResult{Code: impl.ErrNone}
		}
	}
	written := writeByWords(store, files)
	if written.Code != impl.OK {
		return written
	}
	c.Tree = written.Id
	return putByWords(written.Store, impl.KindCommit, commitTextByWords(c))
}

func sameLinesResult(a impl.LinesResult, b impl.LinesResult) bool {
	return a.Code == b.Code && slices.Equal(a.Lines, b.Lines)
}

// digestEnds: five letters for each number that they, and a line feed behind them, add to a digest.
var digestEnds = sync.OnceValue(func() []string {
	ends := make([]string, 65521)
	for number, left := 0, len(ends); left > 0; number++ {
		word, sum := make([]byte, 5), int64(0)
		for i, rest := 0, number; i < len(word); i, rest = i+1, rest/26 {
			word[i] = 'a' + byte(rest%26)
			sum = (sum*131 + int64(word[i])) % 65521
		}
		if sum = (sum*131 + '\n') % 65521; ends[sum] == "" {
			ends[sum] = string(word)
			left--
		}
	}
	return ends
})

// laidAt: a commit's object with that id, of the text with five letters and a line feed behind it.
func laidAt(id string, text string) impl.Object {
	digest, err := strconv.ParseInt(id[1:], 16, 64)
	if err != nil {
		panic(err)
	}
	ahead := digestByHand(text)
	for range 6 {
		ahead = ahead * 131 % 65521
	}
	object := objectOf(impl.KindCommit, text+digestEnds()[(digest-ahead+65521)%65521]+"\n")
	if object.Id != id {
		panic(object.Id + " for " + id)
	}
	return object
}

// commitAt: a commit with that id, whose note has five letters more.
func commitAt(id string, c impl.Commit) impl.Object {
	if c.Tree == "" {
		c.Tree = "t0007"
	}
	return laidAt(id, strings.TrimSuffix(commitTextByWords(c), "\n"))
}

// unreadAt: what cannot be read, with that id. It speaks of a parent, less than all others, that is no one's.
func unreadAt(id string) impl.Object {
	return laidAt(id, "tree t0007\nparent c0000\ntime 05\nnote ")
}

// named: the ids of commits that are named by one letter each; they rise as the letters do.
func named(letters string) []string {
	var ids []string
	for _, letter := range []byte(letters) {
		ids = append(ids, fmt.Sprintf("c%04x", letter))
	}
	return ids
}

func idNamed(letter string) string {
	return named(letter)[0]
}

// shaped: a store of commits told by their letters, each with a colon and its parents, an at sign and its time (else it is its place), or a mark of exclamation if it cannot be read.
func shaped(shape string) []impl.Object {
	var objects []impl.Object
	for i, told := range strings.Fields(shape) {
		told, time, _ := strings.Cut(told, "@")
		name, parents, _ := strings.Cut(told, ":")
		id := idNamed(name)
		if strings.HasSuffix(name, "!") {
			objects = append(objects, unreadAt(id))
			continue
		}
		c := impl.Commit{Parents: named(parents), Time: int64(i)}
		if time != "" {
			c.Time, _ = strconv.ParseInt(time, 10, 64)
		}
		objects = append(objects, commitAt(id, c))
	}
	return storeOf(objects...)
}

// wantGraph holds all that the chapter says of these ids against what is reckoned here, and asks promise 10.
func wantGraph(t *testing.T, name string, store []impl.Object, ids ...string) {
	t.Helper()
	all := commitsByWords(store)
	for _, id := range ids {
		wantOne(t, name+", "+id, store, all, id)
	}
	for _, a := range ids {
		for _, b := range ids {
			history := historyByWords(all, b)
			if got := impl.IsAncestor(store, a, b); got != slices.Contains(history.Lines, a) {
				t.Errorf("%s: IsAncestor of %q and %q = %v", name, a, b, got)
			}
			wantBases(t, name, store, all, a, b)
		}
	}
	wantAncestors(t, name, store, ids)
}

func wantOne(t *testing.T, name string, store []impl.Object, all map[string]impl.CommitResult, id string) {
	t.Helper()
	if got, want := impl.ParentsOf(store, id), parentsByWords(all, id); !sameLinesResult(got, want) {
		t.Errorf("%s: ParentsOf = %#v, want %#v", name, got, want)
	}
	history, want := impl.HistoryOf(store, id), historyByWords(all, id)
	if !sameLinesResult(history, want) {
		t.Errorf("%s: HistoryOf = %#v, want %#v", name, history, want)
	}
	if got, want := impl.GenerationOf(store, id), generationByWords(all, id); got != want {
		t.Errorf("%s: GenerationOf = %#v, want %#v", name, got, want)
	}
	if got, want := impl.LogText(store, id), logByWords(all, id); got != want {
		t.Errorf("%s: LogText = %#v, want %#v", name, got, want)
	}
	if history.Code != impl.OK {
		return
	}
	if !impl.IsAncestor(store, id, id) || !slices.Contains(history.Lines, id) {
		t.Errorf("%s: it is not in its own history", name)
	}
	for _, parent := range impl.ParentsOf(store, id).Lines {
		behind := impl.HistoryOf(store, parent)
		if behind.Code != impl.OK {
			t.Errorf("%s: the history of its parent %s has the code %d", name, parent, behind.Code)
		}
		for _, one := range behind.Lines {
			if !slices.Contains(history.Lines, one) {
				t.Errorf("%s: %s, of its parent %s, is not in its history", name, one, parent)
			}
		}
	}
}

func wantBases(t *testing.T, name string, store []impl.Object, all map[string]impl.CommitResult, a string, b string) {
	t.Helper()
	bases, want := impl.BasesOf(store, a, b), basesByWords(all, a, b)
	if !sameLinesResult(bases, want) {
		t.Errorf("%s: BasesOf %q and %q = %#v, want %#v", name, a, b, bases, want)
	}
	if bases.Code != impl.OK {
		return
	}
	if back := impl.BasesOf(store, b, a); !sameLinesResult(back, bases) {
		t.Errorf("%s: BasesOf %q and %q = %#v, and back %#v", name, a, b, bases, back)
	}
	if impl.GenerationOf(store, a).Code == impl.OK && impl.GenerationOf(store, b).Code == impl.OK {
		wantBest(t, name+", "+a+" and "+b, store, impl.HistoryOf(store, a).Lines, impl.HistoryOf(store, b).Lines, bases.Lines)
	}
}

// wantBest: where no commit comes from itself, bases are the best that two have in common.
func wantBest(t *testing.T, name string, store []impl.Object, ofA []string, ofB []string, bases []string) {
	t.Helper()
	behind := map[string]int{}
	for _, base := range bases {
		if !slices.Contains(ofA, base) || !slices.Contains(ofB, base) {
			t.Errorf("%s: %s is not in both histories", name, base)
		}
		for _, one := range impl.HistoryOf(store, base).Lines {
			if one != base && slices.Contains(bases, one) {
				t.Errorf("%s: %s is in the history of %s", name, one, base)
			}
			behind[one]++
		}
	}
	for _, one := range ofA {
		if slices.Contains(ofB, one) && behind[one] == 0 {
			t.Errorf("%s: %s is in the history of no base", name, one)
		}
	}
}

// wantAncestors: whoever comes from somebody comes from all from whom that one comes.
func wantAncestors(t *testing.T, name string, store []impl.Object, ids []string) {
	t.Helper()
	behind := map[[2]string]bool{}
	for _, a := range ids {
		for _, b := range ids {
			behind[[2]string{a, b}] = impl.IsAncestor(store, a, b)
		}
	}
	for _, a := range ids {
		for _, b := range ids {
			for _, c := range ids {
				if behind[[2]string{a, b}] && behind[[2]string{b, c}] && !behind[[2]string{a, c}] {
					t.Errorf("%s: %s comes from %s, and that from %s, but not from this one", name, c, b, a)
				}
			}
		}
	}
}

func TestPromise10KnownHistories(t *testing.T) {
	for _, c := range []struct {
		name, shape, id, history string
		generation               int64
	}{
		{"one without a parent", "a", "a", "a", 1},
		{"one without a parent, beside others", "a b c:b", "a", "a", 1},
		{"a row of two", "a b:a", "b", "ab", 2},
		{"a row, its first", "a b:a", "a", "a", 1},
		{"a row against the letters", "a:b b:c c:d d", "a", "abcd", 4},
		{"a row against the letters, from its midst", "a:b b:c c:d d", "c", "cd", 2},
		{"a fork, one side", "a b:a c:a", "c", "ac", 2},
		{"a merge", "a b:a c:a d:bc", "d", "abcd", 3},
		{"a merge of two without anything in common", "a b c:ab", "c", "abc", 2},
		{"a merge of three", "a b c d:cab", "d", "abcd", 2},
		{"merges across one another", "a b:a c:a d:bc e:cb f:de", "f", "abcdef", 4},
		{"merges across one another, one side", "a b:a c:a d:bc e:cb f:de", "e", "abce", 3},
		{"one parent by two ways, of two lengths", "a b:a c:ba", "c", "abc", 3},
		{"one parent by two ways, the short one first", "a b:a c:ab", "c", "abc", 3},
		{"a short way and a long one", "a b:a c:b d:c e:ad", "e", "abcde", 5},
		{"a short way and a long one, the long one first", "a b:a c:b d:c e:da", "e", "abcde", 5},
		{"a short way to a long row", "a b:a c:b x:c y:xa z:ya", "z", "abcxyz", 6},
		{"three ways of three lengths", "a b:a c:b p:a z:acp", "z", "abcpz", 4},
		{"two without a parent, far behind", "a b c:a d:b e:cd f:eb", "f", "abcdef", 4},
	} {
		store, id := shaped(c.shape), idNamed(c.id)
		var ids []string
		for _, told := range strings.Fields(c.shape) {
			ids = append(ids, idNamed(told))
		}
		wantGraph(t, c.name, store, ids...)
		if r := impl.HistoryOf(store, id); !sameLinesResult(r, impl.LinesResult{Lines: named(c.history)}) {
			t.Errorf("%s: HistoryOf = %#v, want %q", c.name, r, named(c.history))
		}
		if r := impl.GenerationOf(store, id); r != (impl.IntResult{Value: c.generation}) {
			t.Errorf("%s: GenerationOf = %#v, want %d", c.name, r, c.generation)
		}
	}
}

func TestPromise10KnownBases(t *testing.T) {
	for _, c := range []struct{ name, shape, a, b, bases string }{
		{"the same", "a b:a", "b", "b", "b"},
		{"the same, without a parent", "a", "a", "a", "a"},
		{"the same, a merge", "a b c:ab", "c", "c", "c"},
		{"one is the parent", "a b:a", "a", "b", "a"},
		{"one is far behind", "a b:a c:b d:c", "b", "d", "b"},
		{"one is behind a merge", "a b:a c:a d:bc", "c", "d", "c"},
		{"nothing in common", "a b", "a", "b", ""},
		{"rows with nothing in common", "a b:a c:b x y:x z:y", "c", "z", ""},
		{"a fork", "a b:a c:a", "b", "c", "a"},
		{"a fork behind a row", "a b:a c:b d:c e:c", "d", "e", "c"},
		{"a fork of two lengths", "a b:a c:b d:c e:a", "d", "e", "a"},
		{"two merged across one another", "a b:a c:a d:bc e:cb", "d", "e", "bc"},
		{"two that have nothing in common merged across one another", "b c d:bc e:bc", "d", "e", "bc"},
		{"three merged across one another", "a b:a c:a d:a e:bcd f:dcb", "e", "f", "bcd"},
		{"merged across one another twice", "a b c:ab d:ab e:cd f:cd", "e", "f", "cd"},
		{"one side has merged the other before", "a b:a c:a d:bc e:c", "d", "e", "c"},
		{"one side has merged what is behind the other", "a b:a c:a d:c e:bc f:d", "e", "f", "c"},
		{"one base behind another by a second way", "a b:a c:ab d:ab", "c", "d", "b"},
		{"one base far behind another by a second way", "a b:a p:b q:p c:qa d:aq", "c", "d", "q"},
		{"two bases, one with a longer history", "a b c:b d:c e:da f:ad", "e", "f", "ad"},
		{"a base that only a merge of one side has", "a b c:ab d:b", "c", "d", "b"},
		{"bases rise, whatever their order", "z y x:zy w:yz", "x", "w", "yz"},
		{"a base that is older by its time", "a@9 b:a@1 c:b@5 d:b@0", "c", "d", "b"},
	} {
		store := shaped(c.shape)
		for _, pair := range [][2]string{{c.a, c.b}, {c.b, c.a}} {
			if r := impl.BasesOf(store, idNamed(pair[0]), idNamed(pair[1])); !sameLinesResult(r, impl.LinesResult{Lines: named(c.bases)}) {
				t.Errorf("%s: BasesOf %s and %s = %#v, want %q", c.name, pair[0], pair[1], r, named(c.bases))
			}
		}
		wantGraph(t, c.name, store, idNamed(c.a), idNamed(c.b))
	}
}

func TestRings(t *testing.T) {
	for _, c := range []struct{ name, shape, id, history string }{
		{"its own parent", "a:a", "a", "a"},
		{"its own parent, and another", "a b:ab", "b", "ab"},
		{"its own parent, the second one", "a b:ba", "b", "ab"},
		{"one behind it is its own parent", "a:a b:a c:b", "c", "abc"},
		{"two in each other's history", "a:b b:a", "a", "ab"},
		{"two in each other's history, the other one", "a:b b:a", "b", "ab"},
		{"behind two in each other's history", "a:b b:a c:b d:c", "d", "abcd"},
		{"a ring of three", "a:b b:c c:a", "b", "abc"},
		{"a ring of three with a way out", "a:b b:c c:ad d", "b", "abcd"},
		{"a ring of five, from outside", "a:b b:c c:d d:e e:a x:c y:x", "y", "abcdexy"},
		{"two rings with one in common", "a:bc b:a c:a", "a", "abc"},
		{"a ring behind a ring", "a:b b:a c:da d:c", "c", "abcd"},
		{"a ring, and a ring of one within it", "a:ab b:a", "b", "ab"},
		{"a ring behind a merge's second parent", "a b:c c:b d:ab", "d", "abcd"},
		{"all in each other's history", "a:bc b:ca c:ab", "c", "abc"},
	} {
		store, id := shaped(c.shape), idNamed(c.id)
		if r := impl.HistoryOf(store, id); !sameLinesResult(r, impl.LinesResult{Lines: named(c.history)}) {
			t.Errorf("%s: HistoryOf = %#v, want %q", c.name, r, c.history)
		}
		if r := impl.GenerationOf(store, id); r != (impl.IntResult{Code: impl.ErrForm}) {
			t.Errorf("%s: GenerationOf = %#v", c.name, r)
		}
		if r := impl.LogText(store, id); r.Code != impl.OK || strings.Count(r.Text, "\n") != len(c.history) {
			t.Errorf("%s: LogText = %#v", c.name, r)
		}
		wantGraph(t, c.name, store, named(c.history)...)
	}
	// A ring beside a history is none of it.
	beside := shaped("a b:a x:y y:x z:xb")
	if r := impl.GenerationOf(beside, idNamed("b")); r != (impl.IntResult{Value: 2}) {
		t.Errorf("a ring beside: GenerationOf = %#v", r)
	}
	if r := impl.GenerationOf(beside, idNamed("z")); r != (impl.IntResult{Code: impl.ErrForm}) {
		t.Errorf("a ring behind: GenerationOf = %#v", r)
	}
}

func TestAncestorsInRings(t *testing.T) {
	store := shaped("a:b b:c c:a d:a e:f f:e g:g")
	for old, news := range map[string]string{"a": "abcd", "b": "abcd", "c": "abcd", "d": "d", "e": "ef", "f": "ef", "g": "g"} {
		for _, new := range strings.Split("abcdefg", "") {
			if got := impl.IsAncestor(store, idNamed(old), idNamed(new)); got != strings.Contains(news, new) {
				t.Errorf("IsAncestor of %s and %s = %v", old, new, got)
			}
		}
	}
}

func TestBasesInRings(t *testing.T) {
	for _, c := range []struct{ name, shape, a, b, bases string }{
		{"its own parent is another's base", "a:a b:a c:a", "b", "c", "a"},
		{"its own parent, and itself", "a:a", "a", "a", "a"},
		{"its own parent, and who comes from it", "a:a b:a", "a", "b", "a"},
		{"its own parent behind another", "a:a b:a c:b d:b", "c", "d", "b"},
		{"two in each other's history", "a:b b:a", "a", "b", ""},
		{"one of two in each other's history, and itself", "a:b b:a", "a", "a", ""},
		{"both histories have a ring of two", "a:b b:a c:a d:b", "c", "d", ""},
		{"both histories come to one of a ring", "a:b b:a c:a d:a", "c", "d", ""},
		{"both histories have a ring of three", "a:b b:c c:a d:a e:c", "d", "e", ""},
		{"a ring, and what is behind it", "a b:ac c:ab d:b e:c", "d", "e", ""},
		{"a ring, and another one in common", "a:b b:a c d:ac e:bc", "d", "e", "c"},
		{"a ring behind what is in common", "r:s s:r x:r y:x z:x", "y", "z", "x"},
		{"a ring behind one of two bases", "r:s s:r x:r w y:xw z:wx", "y", "z", "wx"},
		{"a ring in one history alone", "a b:ca c:b d:a", "b", "d", "a"},
		{"one in a ring, and who comes from it", "a:b b:a c:a", "a", "c", ""},
		{"one is the other's parent in a ring of one", "a:ab b", "a", "b", "b"},
	} {
		store := shaped(c.shape)
		for _, pair := range [][2]string{{c.a, c.b}, {c.b, c.a}} {
			if r := impl.BasesOf(store, idNamed(pair[0]), idNamed(pair[1])); !sameLinesResult(r, impl.LinesResult{Lines: named(c.bases)}) {
				t.Errorf("%s: BasesOf %s and %s = %#v, want %q", c.name, pair[0], pair[1], r, c.bases)
			}
		}
		wantGraph(t, c.name, store, idNamed(c.a), idNamed(c.b))
	}
}

// parentSets: every list of at most three of the letters, each once, in their order.
func parentSets(letters string) []string {
	sets := []string{""}
	for _, letter := range strings.Split(letters, "") {
		for _, set := range slices.Clone(sets) {
			if len(set) < 3 && letter != "" {
				sets = append(sets, set+letter)
			}
		}
	}
	return sets
}

func TestPromise10EveryGraphOfThree(t *testing.T) {
	// Of each there may be none, one that cannot be read, or one with any parents.
	letters := "abc"
	told := func(letter string) []string {
		all := []string{"", letter + "!"}
		for _, parents := range parentSets(letters) {
			all = append(all, letter+":"+parents)
		}
		return all
	}
	count := 0
	for _, a := range told("a") {
		for _, b := range told("b") {
			for _, c := range told("c") {
				shape := a + " " + b + " " + c
				wantGraph(t, shape, shaped(shape), named(letters)...)
				count++
			}
		}
	}
	if count != 1000 {
		t.Errorf("there are %d graphs", count)
	}
}

func TestPromise10EveryGraphOfFiveWithoutRings(t *testing.T) {
	shapes := []string{""}
	for i, letter := range strings.Split("abcde", "") {
		var more []string
		for _, shape := range shapes {
			for _, parents := range parentSets("abcde"[:i]) {
				more = append(more, shape+" "+letter+":"+parents)
			}
		}
		shapes = more
	}
	if len(shapes) != 1*2*4*8*15 {
		t.Errorf("there are %d graphs", len(shapes))
	}
	for _, shape := range shapes {
		store := shaped(shape)
		wantGraph(t, shape, store, named("cde")...)
		if r := impl.GenerationOf(store, idNamed("e")); r.Code != impl.OK {
			t.Errorf("%s: GenerationOf = %#v", shape, r)
		}
	}
}

// idNumbered: ids that do not rise with their numbers.
func idNumbered(number int) string {
	return fmt.Sprintf("c%04x", (number*7919+13)%65521)
}

// randomGraph: so many commits by numbers, with parents (least of them tried for) of the numbers below them, or of any.
func randomGraph(random *rand.Rand, count int, least int, rings bool) []impl.Object {
	var objects []impl.Object
	for number := range count {
		below := number
		if rings {
			below = count
		}
		var parents []string
		for range least + random.Intn(4-least) {
			if below == 0 {
				break
			}
			// Near ones, so that the histories are deep.
			parent := idNumbered(max(0, below-1-random.Intn(5)))
			if random.Intn(4) == 0 {
				parent = idNumbered(random.Intn(below))
			}
			if !slices.Contains(parents, parent) {
				parents = append(parents, parent)
			}
		}
		objects = append(objects, commitAt(idNumbered(number), impl.Commit{Parents: parents, Time: random.Int63n(20), Note: "n "}))
	}
	return objects
}

func TestPromise10RandomGraphs(t *testing.T) {
	random := rand.New(rand.NewSource(13))
	codes, several, ringed := map[int64]int{}, 0, 0
	for round := range 400 {
		count := 2 + random.Intn(9)
		objects := randomGraph(random, count, round%3, round%4 == 3)
		switch round % 8 {
		case 1:
			objects = slices.Delete(objects, 0, 1)
		case 5:
			at := random.Intn(count)
			objects[at] = unreadAt(idNumbered(at))
		}
		store := storeOf(objects...)
		var ids []string
		for number := range count {
			ids = append(ids, idNumbered(number))
		}
		wantGraph(t, fmt.Sprintf("round %d", round), store, ids...)
		for i, id := range ids {
			codes[impl.HistoryOf(store, id).Code]++
			if impl.GenerationOf(store, id).Code == impl.ErrForm {
				ringed++
			}
			if len(impl.BasesOf(store, id, ids[max(0, i-1)]).Lines) > 1 {
				several++
			}
		}
	}
	if codes[impl.OK] < 500 || codes[impl.ErrNone] < 50 || codes[impl.ErrText] < 50 || several < 20 || ringed < 100 {
		t.Errorf("the graphs do not reach all: %v, %d with several bases, %d with rings", codes, several, ringed)
	}
}

func TestPromise10RandomDeepGraphs(t *testing.T) {
	random := rand.New(rand.NewSource(14))
	codes := map[int64]int{}
	for round := range 12 {
		count := maxHistory - 10 + 5*round
		store := storeOf(randomGraph(random, count, 2, round%4 == 3)...)
		ids := []string{idNumbered(count - 1), idNumbered(count - 2), idNumbered(count / 2), idNumbered(0), idNumbered(count)}
		for range 4 {
			ids = append(ids, idNumbered(random.Intn(count)))
		}
		wantGraph(t, fmt.Sprintf("round %d", round), store, ids...)
		codes[impl.HistoryOf(store, ids[0]).Code]++
	}
	if codes[impl.OK] == 0 || codes[impl.ErrMany] == 0 {
		t.Errorf("the graphs do not reach all: %v", codes)
	}
}

// rowOf: a row of so many commits; the parents given are those of its first one, number 0.
func rowOf(count int, parents ...string) []impl.Object {
	var objects []impl.Object
	for number := range count {
		objects = append(objects, commitAt(idNumbered(number), impl.Commit{Parents: parents, Time: int64(number), Note: "row "}))
		parents = []string{idNumbered(number)}
	}
	return objects
}

// wantCodes: what HistoryOf, and all that ask it, answer to id.
func wantCodes(t *testing.T, name string, store []impl.Object, id string, code int64) {
	t.Helper()
	if code := storeFaultByWords(store); code != impl.OK {
		t.Fatalf("%s: the store has the fault %d", name, code)
	}
	if r := impl.HistoryOf(store, id); r.Code != code || code != impl.OK && r.Lines != nil {
		t.Errorf("%s: HistoryOf = %#v, want %d", name, r, code)
	}
	if got := impl.IsAncestor(store, id, id); got != (code == impl.OK) {
		t.Errorf("%s: IsAncestor of itself = %v", name, got)
	}
	if r := impl.BasesOf(store, id, id); r.Code != code || code != impl.OK && r.Lines != nil {
		t.Errorf("%s: BasesOf = %#v, want %d", name, r, code)
	}
	if r := impl.LogText(store, id); r.Code != code || code != impl.OK && r.Text != "" {
		t.Errorf("%s: LogText = %#v, want %d", name, r, code)
	}
	if r := impl.GenerationOf(store, id); code != impl.OK && r != (impl.IntResult{Code: code}) {
		t.Errorf("%s: GenerationOf = %#v, want %d", name, r, code)
	}
	wantGraph(t, name, store, id)
}

func TestHistoriesOfAsManyAsMayBe(t *testing.T) {
	last, end, none := idNumbered(maxHistory-1), idNumbered(maxHistory), idNumbered(150)
	wantCodes(t, "a row", storeOf(rowOf(maxHistory)...), last, impl.OK)
	wantCodes(t, "a row and one more", storeOf(rowOf(maxHistory+1)...), end, impl.ErrMany)
	wantCodes(t, "a row and one more, from the one ahead", storeOf(rowOf(maxHistory+1)...), last, impl.OK)
	wantCodes(t, "far more", storeOf(rowOf(maxObjects)...), idNumbered(maxObjects-1), impl.ErrMany)
	wantCodes(t, "far more, from one in the midst", storeOf(rowOf(maxObjects)...), last, impl.OK)
	for count := maxHistory - 3; count <= maxHistory+3; count++ {
		store, id := storeOf(rowOf(count)...), idNumbered(count-1)
		if r, n := impl.GenerationOf(store, id), int64(count); count <= maxHistory && r != (impl.IntResult{Value: n}) || count > maxHistory && r != (impl.IntResult{Code: impl.ErrMany}) {
			t.Errorf("a row of %d: GenerationOf = %#v", count, r)
		}
		if r := impl.HistoryOf(store, id); count <= maxHistory && len(r.Lines) != count {
			t.Errorf("a row of %d: HistoryOf has %d", count, len(r.Lines))
		}
		// What is not there is counted too, ahead of its own code.
		code := int64(impl.ErrNone)
		if count >= maxHistory {
			code = impl.ErrMany
		}
		wantCodes(t, fmt.Sprintf("a row of %d, then one that is not there", count), storeOf(rowOf(count, none)...), id, code)
		unread := storeOf(append(rowOf(count, none), unreadAt(none))...)
		wantCodes(t, fmt.Sprintf("a row of %d, then one that cannot be read", count), unread, id, map[int64]int64{impl.ErrNone: impl.ErrText, impl.ErrMany: impl.ErrMany}[code])
		ring := storeOf(rowOf(count, id)...)
		wantCodes(t, fmt.Sprintf("a ring of %d", count), ring, id, map[bool]int64{true: impl.ErrMany, false: impl.OK}[count > maxHistory])
		if r := impl.BasesOf(ring, id, idNumbered(0)); count <= maxHistory && !sameLinesResult(r, impl.LinesResult{}) {
			t.Errorf("a ring of %d: BasesOf = %#v", count, r)
		}
	}
}

func TestWideHistories(t *testing.T) {
	// Each commit of the row has two parents more, that the store has not.
	for count := 30; count <= 36; count++ {
		var objects []impl.Object
		parents := []string{idNumbered(1000), idNumbered(1001)}
		for number := range count {
			objects = append(objects, commitAt(idNumbered(number), impl.Commit{Parents: parents}))
			parents = []string{idNumbered(number), idNumbered(1002 + 2*number), idNumbered(1003 + 2*number)}
		}
		code := int64(impl.ErrNone)
		if 3*count > maxHistory {
			code = impl.ErrMany
		}
		wantCodes(t, fmt.Sprintf("%d commits, and twice as many that are not there", count), storeOf(objects...), idNumbered(count-1), code)
	}
	// What is counted once is counted no second time, by however many ways it is got to.
	var objects []impl.Object
	for number := range maxHistory {
		var parents []string
		for back := 1; back <= min(3, number); back++ {
			parents = append(parents, idNumbered(number-back))
		}
		objects = append(objects, commitAt(idNumbered(number), impl.Commit{Parents: parents}))
	}
	wantCodes(t, "three ways from each", storeOf(objects...), idNumbered(maxHistory-1), impl.OK)
	if r := impl.GenerationOf(storeOf(objects...), idNumbered(maxHistory-1)); r != (impl.IntResult{Value: maxHistory}) {
		t.Errorf("three ways from each: GenerationOf = %#v", r)
	}
}

func TestCommitsThatAreNotThere(t *testing.T) {
	for _, c := range []struct {
		name, shape, id string
		code            int64
	}{
		{"no object", "", "a", impl.ErrNone},
		{"another one is there", "a", "b", impl.ErrNone},
		{"a parent", "b:a", "b", impl.ErrNone},
		{"a second parent", "a c:ab", "c", impl.ErrNone},
		{"a third parent", "a b d:abc", "d", impl.ErrNone},
		{"one far behind", "b:a c:b d:c e:d f:e", "f", impl.ErrNone},
		{"one far behind, greater than all", "a:b b:c c:d d:z", "a", impl.ErrNone},
		{"a parent of itself, and one that is not there", "a:ab", "a", impl.ErrNone},
		{"one behind a ring", "a:b b:ac", "a", impl.ErrNone},
		{"it cannot be read", "a!", "a", impl.ErrText},
		{"a parent cannot be read", "a! b:a", "b", impl.ErrText},
		{"one far behind cannot be read", "a! b:a c:b d:c e:d", "e", impl.ErrText},
		{"the least one cannot be read", "a! d:abc c!", "d", impl.ErrText},
		{"the least one is not there", "b! d:abc c!", "d", impl.ErrNone},
		{"the least one has no code, the next one cannot be read", "a b! d:abc", "d", impl.ErrText},
		{"the least one has no code, the next one is not there", "a c! d:abc", "d", impl.ErrNone},
		{"the least one is met last, and cannot be read", "a! b:a c:b d:cz", "d", impl.ErrText},
		{"the least one is met last, and is not there", "b:a c:b d:cz z!", "d", impl.ErrNone},
		{"the least one is met first, and cannot be read", "a! b:y d:ab", "d", impl.ErrText},
		{"the least one is met first, and is not there", "b:y d:ab y!", "d", impl.ErrNone},
		{"what is told in what cannot be read is no parent", "a! b:a", "b", impl.ErrText},
		{"beside the history", "a b! c:z d:a", "d", impl.OK},
	} {
		wantCodes(t, c.name, shaped(c.shape), idNamed(c.id), c.code)
	}
	// By themselves alone the parents are asked, not the history.
	for shape, parents := range map[string]string{"b:a": "a", "b:a a!": "a", "b:zya": "zya", "b:b": "b"} {
		if r := impl.ParentsOf(shaped(shape), idNamed("b")); !sameLinesResult(r, impl.LinesResult{Lines: named(parents)}) {
			t.Errorf("%s: ParentsOf = %#v", shape, r)
		}
	}
}

func TestIdsOfNoCommit(t *testing.T) {
	c := objectOf(impl.KindCommit, commitTextByWords(impl.Commit{Tree: "t0007"}))
	blob, tree := objectOf(impl.KindBlob, c.Data), objectOf(impl.KindTree, c.Data)
	full := storeOf(blob, tree, c, objectOf(impl.KindTree, ""))
	for _, id := range slices.Concat(wrongIds, []string{blob.Id, tree.Id, "c0000", "cffff", c.Id + " ", c.Id + "\x00", " " + c.Id, c.Id[:4], c.Id + c.Id, strings.ToUpper(c.Id), "t0007", "t0000", strings.Repeat("c0000", 100000)}) {
		for _, store := range [][]impl.Object{nil, {}, full, storeOf(blob, tree)} {
			name := fmt.Sprintf("%.20q in %d", id, len(store))
			wantCodes(t, name, store, id, impl.ErrNone)
			if r := impl.ParentsOf(store, id); !sameLinesResult(r, impl.LinesResult{Code: impl.ErrNone}) {
				t.Errorf("%s: ParentsOf = %#v", name, r)
			}
			if r := impl.CommitFiles(store, id); !sameFilesResult(r, impl.FilesResult{Code: impl.ErrNone}) {
				t.Errorf("%s: CommitFiles = %#v", name, r)
			}
			if impl.IsAncestor(full, id, c.Id) || impl.IsAncestor(full, c.Id, id) {
				t.Errorf("%s: it comes from something", name)
			}
		}
	}
	wantCodes(t, "the commit itself", full, c.Id, impl.OK)
}

// unreadTexts: data that no commit has.
func unreadTexts() []string {
	texts := []string{"", "bad", "\n", "\x00", "tree t0007\n", "tree t0007\ntime 1\nnote ", "tree t0007\ntime 01\nnote \n", "tree t0007\nparent c0001\nparent c0001\ntime 1\nnote \n", "tree b0007\ntime 1\nnote \n", "time 1\ntree t0007\nnote \n", "tree t0007\ntime 1\nnote a\nnote b\n", "tree t0007\ntime -1\nnote \n", "tree t0007\ntime 1000000001\nnote \n", strings.Repeat("tree t0007\n", maxLines), strings.Repeat("a", maxText)}
	for _, name := range []string{"a wrong tree and all else", "too many parents and all behind", "a wrong parent, last", "a note of a line feed", "one parent twice, last"} {
		texts = append(texts, commitTextByWords(faultyCommits()[name].c))
	}
	return texts
}

func TestCommitsThatCannotBeRead(t *testing.T) {
	for _, data := range unreadTexts() {
		bad := objectOf(impl.KindCommit, data)
		name := fmt.Sprintf("%.60q", data)
		child := objectOf(impl.KindCommit, commitTextByWords(impl.Commit{Tree: "t0007", Parents: []string{bad.Id}}))
		store := storeOf(bad, child, objectOf(impl.KindTree, ""))
		wantCodes(t, name, store, bad.Id, impl.ErrText)
		wantCodes(t, name+", as a parent", store, child.Id, impl.ErrText)
		if r := impl.ParentsOf(store, bad.Id); !sameLinesResult(r, impl.LinesResult{Code: impl.ErrText}) {
			t.Errorf("%s: ParentsOf = %#v", name, r)
		}
		if r := impl.CommitFiles(store, bad.Id); !sameFilesResult(r, impl.FilesResult{Code: impl.ErrText}) {
			t.Errorf("%s: CommitFiles = %#v", name, r)
		}
		// The parents, and the files, are the commit's own.
		if r := impl.ParentsOf(store, child.Id); !sameLinesResult(r, impl.LinesResult{Lines: []string{bad.Id}}) {
			t.Errorf("%s, as a parent: ParentsOf = %#v", name, r)
		}
		if r := impl.CommitFiles(store, child.Id); !sameFilesResult(r, impl.FilesResult{}) {
			t.Errorf("%s, as a parent: CommitFiles = %#v", name, r)
		}
	}
}

func TestParentsInTheirOrder(t *testing.T) {
	for _, parents := range []string{"", "a", "z", "ab", "ba", "za", "abc", "cba", "bac", "zay", "mmm"[:1], "ma", "am"} {
		store := shaped("a b c m:" + parents + " y z")
		if r := impl.ParentsOf(store, idNamed("m")); !sameLinesResult(r, impl.LinesResult{Lines: named(parents)}) {
			t.Errorf("%s: ParentsOf = %#v", parents, r)
		}
	}
}

func TestBasesTellTheCodeOfTheFirstOne(t *testing.T) {
	many := storeOf(slices.Concat(rowOf(maxHistory+1), shaped("a c! d:c e:q"))...)
	ids := map[string]int64{idNumbered(maxHistory): impl.ErrMany, idNamed("d"): impl.ErrText, idNamed("c"): impl.ErrText, idNamed("e"): impl.ErrNone, idNamed("x"): impl.ErrNone, "": impl.ErrNone, "b03f6": impl.ErrNone, idNamed("a"): impl.OK, idNumbered(0): impl.OK}
	for a, codeA := range ids {
		for b, codeB := range ids {
			want := codeA
			if want == impl.OK {
				want = codeB
			}
			if r := impl.BasesOf(many, a, b); r.Code != want || want != impl.OK && r.Lines != nil {
				t.Errorf("BasesOf %q and %q = %#v, want %d", a, b, r, want)
			}
			if got := impl.IsAncestor(many, a, b); got != (a == b && codeA == impl.OK) {
				t.Errorf("IsAncestor of %q and %q = %v", a, b, got)
			}
		}
	}
	// Who is in a history that has a code comes from nobody, and nobody from whom that has one.
	if impl.IsAncestor(many, idNumbered(0), idNumbered(maxHistory)) || impl.IsAncestor(many, idNamed("c"), idNamed("d")) {
		t.Error("IsAncestor where the history has a code")
	}
	if !impl.IsAncestor(many, idNumbered(0), idNumbered(maxHistory-1)) {
		t.Error("IsAncestor in as long a history as may be")
	}
}

func TestCommitFiles(t *testing.T) {
	leaf, bad, none := treeOf(fileOf("x")), objectOf(impl.KindTree, "bad"), objectOf(impl.KindTree, "none")
	commitOf := func(tree impl.Object, parents ...string) impl.Object {
		return objectOf(impl.KindCommit, commitTextByWords(impl.Commit{Tree: tree.Id, Parents: parents}))
	}
	full, over := treeOf(entriesOf(maxFiles, 3)...), treeOf(entriesOf(maxFiles+1, 3)...)
	four, five := nested(leaf, "c", "b", "a"), nested(leaf, "d", "c", "b", "a")
	trees, many := manyTrees(maxTrees, leaf), manyTrees(maxTrees+1, leaf)
	for _, c := range []struct {
		name  string
		tree  impl.Object
		store []impl.Object
		code  int64
	}{
		{"one file", leaf, []impl.Object{leaf}, impl.OK},
		{"no file", objectOf(impl.KindTree, ""), []impl.Object{objectOf(impl.KindTree, "")}, impl.OK},
		{"the tree is not there", none, []impl.Object{leaf}, impl.ErrNone},
		{"the tree cannot be read", bad, []impl.Object{bad}, impl.ErrText},
		{"a tree within is not there", treeOf(subtree("a", none)), []impl.Object{treeOf(subtree("a", none))}, impl.ErrNone},
		{"a tree within cannot be read", treeOf(subtree("a", bad)), []impl.Object{treeOf(subtree("a", bad)), bad}, impl.ErrText},
		{"as many files as may be", full, []impl.Object{full}, impl.OK},
		{"too many files", over, []impl.Object{over}, impl.ErrMany},
		{"as deep as may be", four[3], four, impl.OK},
		{"too deep", five[4], five, impl.ErrMany},
		{"as many trees as may be", trees[2], append(slices.Clone(trees), leaf), impl.OK},
		{"too many trees", many[2], append(slices.Clone(many), leaf), impl.ErrMany},
	} {
		for _, parents := range [][]string{nil, {"c1234"}, {"c1234", "c0000", "c4321"}} {
			commit := commitOf(c.tree, parents...)
			store := storeOf(append(slices.Clone(c.store), commit)...)
			got, want := impl.CommitFiles(store, commit.Id), commitFilesByWords(store, commit.Id)
			if !sameFilesResult(got, want) || got.Code != c.code {
				t.Errorf("%s: CommitFiles = %#v, want %#v and %d", c.name, got, want, c.code)
			}
			if r := impl.ReadFiles(store, c.tree.Id); !sameFilesResult(got, r) {
				t.Errorf("%s: CommitFiles = %#v, ReadFiles = %#v", c.name, got, r)
			}
		}
	}
	// A commit is asked for ahead of its tree, and in a ring none but itself.
	store := storeOf(slices.Concat([]impl.Object{objectOf(impl.KindTree, "bad")}, shaped("a:a b!"))...)
	for id, code := range map[string]int64{idNamed("a"): impl.ErrNone, idNamed("b"): impl.ErrText, idNamed("c"): impl.ErrNone, "": impl.ErrNone} {
		if r := impl.CommitFiles(store, id); !sameFilesResult(r, impl.FilesResult{Code: code}) {
			t.Errorf("%q: CommitFiles = %#v, want %d", id, r, code)
		}
	}
	whole := storeOf(append(slices.Clone(store), objectOf(impl.KindTree, ""))...)
	if r := impl.CommitFiles(whole, idNamed("a")); !sameFilesResult(r, impl.FilesResult{}) {
		t.Errorf("its own parent: CommitFiles = %#v", r)
	}
}

// wantCommitted asks promise 10 of what is committed.
func wantCommitted(t *testing.T, name string, store []impl.Object, files []impl.File, parents []string, time int64, note string) impl.StoreResult {
	t.Helper()
	got, want := impl.AddCommit(store, files, parents, time, note), addByWords(store, files, parents, time, note)
	if !sameStoreResult(got, want) {
		t.Errorf("%s: AddCommit = %#v, want %#v", name, got, want)
	}
	if got.Code != impl.OK {
		if got.Id != "" || got.Store != nil {
			t.Errorf("%s: something stands beside the code %d", name, got.Code)
		}
		return got
	}
	if r := impl.CommitFiles(got.Store, got.Id); !sameFilesResult(r, impl.FilesResult{Files: files}) {
		t.Errorf("%s: CommitFiles = %#v, want %#v", name, r, files)
	}
	if r := impl.ParentsOf(got.Store, got.Id); !sameLinesResult(r, impl.LinesResult{Lines: parents}) {
		t.Errorf("%s: ParentsOf = %#v, want %q", name, r, parents)
	}
	read := impl.DecodeCommit(impl.GetObject(got.Store, impl.KindCommit, got.Id).Object.Data)
	if read.Code != impl.OK || read.Commit.Time != time || read.Commit.Note != note {
		t.Errorf("%s: the commit is %#v", name, read)
	}
	for _, object := range store {
		if impl.GetObject(got.Store, object.Kind, object.Id).Object != object {
			t.Errorf("%s: %q is lost", name, object.Id)
		}
	}
	if again := impl.AddCommit(got.Store, files, parents, time, note); !sameStoreResult(again, got) {
		t.Errorf("%s: committed twice, it is %#v, want %#v", name, again, got)
	}
	for _, parent := range parents {
		if impl.HistoryOf(got.Store, got.Id).Code == impl.OK && !impl.IsAncestor(got.Store, parent, got.Id) {
			t.Errorf("%s: it does not come from its parent %s", name, parent)
		}
	}
	return got
}

func TestPromise10WhatIsCommitted(t *testing.T) {
	none := wantCommitted(t, "nothing", nil, nil, nil, 0, "")
	if want := storeOf(objectOf(impl.KindTree, ""), objectOf(impl.KindCommit, "tree t0007\ntime 0\nnote \n")); !slices.Equal(none.Store, want) {
		t.Errorf("nothing: %#v, want %#v", none.Store, want)
	}
	known := wantCommitted(t, "two files", none.Store, []impl.File{{Path: "a", Mode: 1, Id: "b03f6"}, {Path: "d/x", Mode: 2, Id: "b03f6"}}, []string{none.Id}, 7, "a note")
	inner := objectOf(impl.KindTree, "run b03f6 x\n")
	whole := objectOf(impl.KindTree, "file b03f6 a\ntree "+inner.Id+" d\n")
	commit := objectOf(impl.KindCommit, "tree "+whole.Id+"\nparent "+none.Id+"\ntime 7\nnote a note\n")
	if want := storeOf(append(slices.Clone(none.Store), inner, whole, commit)...); known.Id != commit.Id || !slices.Equal(known.Store, want) {
		t.Errorf("two files: %#v, want %#v", known, want)
	}
	for _, time := range []int64{0, 1, 10, 1e9} {
		for _, note := range []string{"", " ", "~", " a  b ", strings.Repeat("x", 60), "parent c0001"} {
			wantCommitted(t, fmt.Sprintf("time %d, note %q", time, note), known.Store, filesAt("a/b/c/d", "a/b/e", "z"), []string{known.Id, none.Id}, time, note)
		}
	}
	if r := wantCommitted(t, "as many files as may be", known.Store, fullFiles(maxFiles, 4), []string{none.Id, known.Id}, 3, "full"); r.Code != impl.OK {
		t.Errorf("as many files as may be: %#v", r)
	}
	// Its own blobs need not be there, and other objects are no matter.
	wantCommitted(t, "beside others", storeOf(append(fullStore(100, 5), known.Store...)...), filesAt("a", "b"), []string{known.Id}, 3, "others")
}

func TestPromise10RandomCommits(t *testing.T) {
	random := rand.New(rand.NewSource(15))
	codes := map[int64]int{}
	for round := range 10 {
		store := withOthers(15 * round)
		ids := []string{idNumbered(7)}
		for step := range 40 {
			files := randomFiles(random, 6, partingNames[:5])
			var parents []string
			for range random.Intn(4) {
				// The one that is not there seldom is a parent.
				at := random.Intn(len(ids))
				if parent := ids[at]; !slices.Contains(parents, parent) && (at > 0 || random.Intn(4) == 0) {
					parents = append(parents, parent)
				}
			}
			r := wantCommitted(t, fmt.Sprintf("round %d, step %d", round, step), store, files, parents, random.Int63n(1000), "step")
			codes[r.Code]++
			if r.Code == impl.OK {
				store = r.Store
				ids = append(ids, r.Id)
			}
		}
		if round < 3 {
			wantGraph(t, fmt.Sprintf("round %d", round), store, ids[max(0, len(ids)-8):]...)
		}
	}
	if codes[impl.OK] < 200 || codes[impl.ErrNone] < 10 || codes[impl.ErrMany] < 20 {
		t.Errorf("the commits do not reach all: %v", codes)
	}
}

func TestPromise10ARowThatIsCommitted(t *testing.T) {
	var store []impl.Object
	var parents []string
	for count := 1; count <= maxHistory+2; count++ {
		var r impl.StoreResult
		// Two commits may well have one id; then another note is taken.
		for try := 0; try == 0 || r.Code == impl.ErrClash; try++ {
			r = impl.AddCommit(store, nil, parents, int64(count), "try "+strconv.Itoa(try))
		}
		if r.Code != impl.OK {
			t.Fatalf("commit %d: %#v", count, r)
		}
		store, parents = r.Store, []string{r.Id}
		history := impl.HistoryOf(store, r.Id)
		if count <= maxHistory && (len(history.Lines) != count || impl.GenerationOf(store, r.Id).Value != int64(count)) || count > maxHistory && history.Code != impl.ErrMany {
			t.Errorf("commit %d: HistoryOf = %#v", count, history)
		}
		if r := impl.CommitFiles(store, r.Id); !sameFilesResult(r, impl.FilesResult{}) {
			t.Errorf("commit %d: CommitFiles = %#v", count, r)
		}
	}
}

func TestAddCommitTellsItsCodes(t *testing.T) {
	want := func(name string, code int64, store []impl.Object, files []impl.File, parents []string, time int64, note string) {
		t.Helper()
		if r := wantCommitted(t, name, store, files, parents, time, note); r.Code != code {
			t.Errorf("%.80s: AddCommit = %d, want %d", name, r.Code, code)
		}
	}
	good, gone, bad := filesAt("a", "b/c"), []string{"c1234"}, faultyFiles()["mode of a tree"].files
	full := withOthers(maxObjects)
	for name, c := range faultyStores() {
		want(name, c.code, c.store, good, nil, 0, "")
		want(name+", all else wrong too", c.code, c.store, bad, []string{"x"}, -1, "\n")
	}
	for name, c := range faultyFiles() {
		for _, store := range [][]impl.Object{nil, full} {
			want(name, c.code, store, c.files, nil, 0, "")
			want(name+", wrong parents too", c.code, store, c.files, []string{"x"}, 0, "")
			want(name+", too many parents too", c.code, store, c.files, make([]string, 4), 0, "")
			want(name+", a wrong time too", c.code, store, c.files, gone, -1, "")
			want(name+", a wrong note too", c.code, store, c.files, nil, 0, "\n")
		}
	}
	asked := 0
	for name, f := range faultyCommits() {
		// The tree is the program's own.
		if f.c.Tree != "t0007" {
			continue
		}
		asked++
		for _, store := range [][]impl.Object{nil, full} {
			want(name, f.code, store, good, f.c.Parents, f.c.Time, f.c.Note)
			want(name+", no files", f.code, store, nil, f.c.Parents, f.c.Time, f.c.Note)
		}
	}
	if asked < 10 {
		t.Errorf("%d commits with a fault", asked)
	}
	for _, time := range []int64{math.MinInt64, -1, 1e9 + 1, 1 << 32, math.MaxInt64} {
		want(fmt.Sprintf("time %d", time), impl.ErrRange, nil, good, nil, time, "")
		want(fmt.Sprintf("time %d, a parent that is not there", time), impl.ErrRange, nil, good, gone, time, "")
		want(fmt.Sprintf("time %d, a wrong parent", time), impl.ErrForm, nil, good, []string{"t0007"}, time, "")
	}
	want("a wrong note, a parent that is not there", impl.ErrText, nil, good, gone, 0, "\n")
}

func TestAddCommitThatClosesARing(t *testing.T) {
	// The store tells of a child of what is committed ahead of it.
	store := shaped("b:a c:b")
	closing := decodeCommitByForm(commitAt(idNamed("a"), impl.Commit{Parents: named("c"), Time: 4}).Data).Commit
	r := wantCommitted(t, "a ring", store, nil, closing.Parents, closing.Time, closing.Note)
	if r.Id != idNamed("a") || !sameLinesResult(impl.HistoryOf(r.Store, r.Id), impl.LinesResult{Lines: named("abc")}) || impl.GenerationOf(r.Store, r.Id).Code != impl.ErrForm {
		t.Errorf("a ring: %#v", r)
	}
	wantGraph(t, "a ring", r.Store, named("abc")...)
	self := commitAt(idNamed("a"), impl.Commit{Parents: named("a")})
	own := decodeCommitByForm(self.Data).Commit
	if r := wantCommitted(t, "its own parent", shaped("b"), nil, own.Parents, own.Time, own.Note); r.Code != impl.ErrNone {
		t.Errorf("its own parent: %d", r.Code)
	}
	laid := storeOf(self, objectOf(impl.KindTree, ""))
	if r := wantCommitted(t, "its own parent, there", laid, nil, own.Parents, own.Time, own.Note); r.Id != self.Id || !slices.Equal(r.Store, laid) {
		t.Errorf("its own parent, there: %#v", r)
	}
}

func TestAddCommitOfParentsThatAreNotThere(t *testing.T) {
	store := shaped("a b:a c:z d! e:e")
	twins := storeOf(append(slices.Clone(store), objectOf(impl.KindBlob, store[0].Data), objectOf(impl.KindTree, store[0].Data))...)
	tree := treeOf(fileOf("x"))
	files := []impl.File{{Path: "x", Mode: 1, Id: "b03f6"}}
	clash := storeOf(append(slices.Clone(store), clashWith(tree))...)
	full := withOthers(maxObjects, store...)
	for _, c := range []struct {
		name, parents string
		code          int64
	}{
		{"none", "", impl.OK},
		{"one", "b", impl.OK},
		{"three, in any order", "cab", impl.OK},
		{"one whose own parent is not there", "c", impl.OK},
		{"one that cannot be read", "d", impl.OK},
		{"one that is its own parent", "e", impl.OK},
		{"one that is not there", "z", impl.ErrNone},
		{"the first one is not there", "zab", impl.ErrNone},
		{"the last one is not there", "abz", impl.ErrNone},
		{"the one between is not there", "azb", impl.ErrNone},
		{"none is there", "xyz", impl.ErrNone},
	} {
		parents := named(c.parents)
		if r := wantCommitted(t, c.name, store, files, parents, 5, "p"); r.Code != c.code {
			t.Errorf("%s: %d, want %d", c.name, r.Code, c.code)
		}
		wantCommitted(t, c.name+", no files", twins, nil, parents, 5, "p")
		// A parent that is not there is told ahead of what comes of the files.
		for _, s := range []struct {
			name  string
			store []impl.Object
			code  int64
		}{{"the tree clashes", clash, impl.ErrClash}, {"no room", full, impl.ErrMany}} {
			want := c.code
			if want == impl.OK {
				want = s.code
			}
			if r := wantCommitted(t, c.name+", "+s.name, s.store, files, parents, 5, "p"); r.Code != want {
				t.Errorf("%s, %s: %d, want %d", c.name, s.name, r.Code, want)
			}
		}
	}
	// A blob and a tree with the digest of a parent are none.
	others := storeOf(objectOf(impl.KindBlob, store[0].Data), objectOf(impl.KindTree, store[0].Data))
	if r := wantCommitted(t, "other kinds", others, nil, named("a"), 5, "p"); r.Code != impl.ErrNone {
		t.Errorf("other kinds: %d", r.Code)
	}
}

func TestAddCommitPutsTreesThenTheCommit(t *testing.T) {
	files := []impl.File{{Path: "d/x", Mode: 1, Id: "b03f6"}}
	inner := treeOf(fileOf("x"))
	whole := treeOf(impl.TreeEntry{Name: "d", Mode: 3, Id: inner.Id})
	commit := objectOf(impl.KindCommit, commitTextByWords(impl.Commit{Tree: whole.Id, Time: 9, Note: "put"}))
	clash := objectOf(impl.KindCommit, treeTwin(commit.Data))
	for _, c := range []struct {
		name  string
		store []impl.Object
		code  int64
	}{
		{"room for all", withOthers(maxObjects - 3), impl.OK},
		{"room for the trees alone", withOthers(maxObjects - 2), impl.ErrMany},
		{"room for one tree alone", withOthers(maxObjects - 1), impl.ErrMany},
		{"no room", withOthers(maxObjects), impl.ErrMany},
		{"the trees are there, room for the commit", withOthers(maxObjects-1, inner, whole), impl.OK},
		{"the trees are there, no room for the commit", withOthers(maxObjects, inner, whole), impl.ErrMany},
		{"the commit is there, no room for the trees", withOthers(maxObjects, commit), impl.ErrMany},
		{"the commit is there, room for one tree alone", withOthers(maxObjects-1, commit), impl.ErrMany},
		{"the commit is there, room for the trees", withOthers(maxObjects-2, commit), impl.OK},
		{"all is there, no room", withOthers(maxObjects, inner, whole, commit), impl.OK},
		{"the commit clashes", storeOf(clash), impl.ErrClash},
		{"the commit clashes, the trees are there, no room", withOthers(maxObjects, inner, whole, clash), impl.ErrClash},
		{"the commit clashes, room for the trees alone", withOthers(maxObjects-2, clash), impl.ErrClash},
		{"the commit clashes, no room for the trees", withOthers(maxObjects-1, clash), impl.ErrMany},
		{"the inner tree clashes", storeOf(clashWith(inner)), impl.ErrClash},
		{"the whole tree clashes", storeOf(clashWith(whole)), impl.ErrClash},
		{"the whole tree clashes, no room for the inner one", withOthers(maxObjects, clashWith(whole)), impl.ErrMany},
		{"the inner tree clashes, no room", withOthers(maxObjects, clashWith(inner)), impl.ErrClash},
		{"a tree and the commit clash", storeOf(clashWith(whole), clash), impl.ErrClash},
	} {
		if r := wantCommitted(t, c.name, c.store, files, nil, 9, "put"); r.Code != c.code || c.code == impl.OK && r.Id != commit.Id {
			t.Errorf("%s: %d and %q, want %d", c.name, r.Code, r.Id, c.code)
		}
	}
}

func TestLogText(t *testing.T) {
	logOf := func(shape string, id string) string {
		t.Helper()
		r := impl.LogText(shaped(shape), idNamed(id))
		if r.Code != impl.OK {
			t.Errorf("%s: LogText = %#v", shape, r)
		}
		told := ""
		for line := range strings.Lines(r.Text) {
			number, _ := strconv.ParseInt(line[1:5], 16, 64)
			told += string(rune(number))
		}
		return told
	}
	for _, c := range []struct{ name, shape, id, want string }{
		{"one", "a@5", "a", "a"},
		{"a row", "a@1 b:a@2 c:b@3", "c", "cba"},
		{"a row against the letters", "a:b@3 b:c@2 c@1", "a", "abc"},
		{"of one time the greatest id", "a@5 b:a@5 c:b@5", "c", "cba"},
		{"of one time the greatest id, whoever comes from whom", "a:b@5 b:c@5 c@5", "a", "cba"},
		{"of one time the greatest id, at other times too", "a@5 b@7 c@5 d@7 e:ab@5 f:cde@0", "f", "dbecaf"},
		{"a time below others far behind", "a@9 b:a@1 c:b@8 d:c@2", "d", "acdb"},
		{"the first one last of all", "a@9 b:a@8 c:b@0", "c", "abc"},
		{"times by number, not by digits", "a@9 b:a@10 c:b@100 d:c@11", "d", "cdba"},
		{"the bounds of time", "a@0 b:a@1000000000 c:b@999999999", "c", "bca"},
		{"both sides of a merge among one another", "a@0 b:a@1 c:a@2 d:b@3 e:c@4 f:de@5", "f", "fedcba"},
		{"what is beside is not told", "a@1 b@2 c:a@3 d:c@9", "c", "ca"},
		{"one by two ways is told once", "a@1 b:a@2 c:ab@3", "c", "cba"},
		{"its own parent", "a:a@4", "a", "a"},
		{"a ring", "a:b@1 b:c@3 c:a@2", "a", "bca"},
	} {
		if got := logOf(c.shape, c.id); got != c.want {
			t.Errorf("%s: the log is %s, want %s", c.name, got, c.want)
		}
	}
}

func TestLinesOfLogText(t *testing.T) {
	for _, c := range []struct {
		time       int64
		note, want string
	}{
		{0, "", " 0 \n"}, {0, " ", " 0  \n"}, {7, "a", " 7 a\n"}, {1e9, "a  b ", " 1000000000 a  b \n"}, {12, strings.Repeat("~", 60), " 12 " + strings.Repeat("~", 60) + "\n"}, {10, "c0061 5 note", " 10 c0061 5 note\n"},
	} {
		object := objectOf(impl.KindCommit, commitTextByWords(impl.Commit{Tree: "t0007", Time: c.time, Note: c.note}))
		if r := impl.LogText([]impl.Object{object}, object.Id); r != (impl.TextResult{Text: object.Id + c.want}) {
			t.Errorf("time %d, note %q: LogText = %#v", c.time, c.note, r)
		}
	}
	first := objectOf(impl.KindCommit, "tree t0007\ntime 3\nnote one\n")
	next := objectOf(impl.KindCommit, "tree t0007\nparent "+first.Id+"\ntime 2\nnote \n")
	if r := impl.LogText(storeOf(first, next), next.Id); r != (impl.TextResult{Text: first.Id + " 3 one\n" + next.Id + " 2 \n"}) {
		t.Errorf("two: LogText = %#v", r)
	}
	// A log may be longer than a text.
	var objects []impl.Object
	var parents []string
	for number := range maxHistory {
		id := idNumbered(number)
		objects = append(objects, commitAt(id, impl.Commit{Parents: parents, Time: 1e9 - int64(number), Note: strings.Repeat("x", 55)}))
		parents = []string{id}
	}
	r := impl.LogText(storeOf(objects...), parents[0])
	if r != logByWords(commitsByWords(objects), parents[0]) || len(r.Text) < 3*maxText || !strings.HasPrefix(r.Text, idNumbered(0)+" 1000000000 x") {
		t.Errorf("as long as may be: LogText = %#v", r)
	}
}

func TestStoresWithAFaultAheadOfTheHistories(t *testing.T) {
	for name, c := range faultyStores() {
		for _, id := range []string{"", "c03f6", "c0007", "none", "b03f6", c.store[0].Id} {
			for _, r := range []impl.LinesResult{impl.ParentsOf(c.store, id), impl.HistoryOf(c.store, id), impl.BasesOf(c.store, id, ""), impl.BasesOf(c.store, "none", id)} {
				if r.Code != c.code || r.Lines != nil {
					t.Errorf("%s: %#v, want %d", name, r, c.code)
				}
			}
			if impl.IsAncestor(c.store, id, id) {
				t.Errorf("%s: IsAncestor of %q", name, id)
			}
			if r := impl.GenerationOf(c.store, id); r != (impl.IntResult{Code: c.code}) {
				t.Errorf("%s: GenerationOf = %#v, want %d", name, r, c.code)
			}
			if r := impl.CommitFiles(c.store, id); !sameFilesResult(r, impl.FilesResult{Code: c.code}) {
				t.Errorf("%s: CommitFiles = %#v, want %d", name, r, c.code)
			}
			if r := impl.LogText(c.store, id); r != (impl.TextResult{Code: c.code}) {
				t.Errorf("%s: LogText = %#v, want %d", name, r, c.code)
			}
		}
	}
	// Commits that are there are not seen in a store with a fault.
	a, b := shaped("a b:a")[0], shaped("a b:a")[1]
	for _, store := range [][]impl.Object{{a, b, {Kind: 9}}, {a, b, b}, {b, a}, {a, b, {Id: "cfff0", Kind: 3, Data: "x"}}} {
		code := storeFaultByWords(store)
		if code == impl.OK || impl.IsAncestor(store, a.Id, b.Id) || impl.IsAncestor(store, a.Id, a.Id) {
			t.Errorf("%d: IsAncestor in a store with a fault", code)
		}
		if r := impl.HistoryOf(store, b.Id); !sameLinesResult(r, impl.LinesResult{Code: code}) {
			t.Errorf("HistoryOf in a store with a fault = %#v, want %d", r, code)
		}
	}
}

// graphCase: a store, two ids, and what may be committed.
type graphCase struct {
	store   []impl.Object
	a, b    string
	files   []impl.File
	parents []string
	time    int64
	note    string
}

// anyGraphs: cases of every kind, with and without faults.
func anyGraphs() []graphCase {
	random := rand.New(rand.NewSource(16))
	stores := append(anyStores(), shaped("a b:a c:a d:bc e:cb"), shaped("a:b b:a c:a d:bq e!"), storeOf(rowOf(maxHistory+1)...), storeOf(randomGraph(random, 30, 1, false)...), storeOf(randomGraph(random, 30, 1, true)...), addByWords(nil, fullFiles(20, 3), nil, 5, "x").Store)
	lists := anyFiles()
	var cases []graphCase
	for i, store := range stores {
		ids := []string{idNamed("d"), idNamed("e"), "", "none", "c0007", idNumbered(29)}
		for _, object := range store[:min(len(store), 150)] {
			ids = append(ids, object.Id)
		}
		for j := range 12 {
			c := graphCase{store: store, a: ids[j*5%len(ids)], b: ids[random.Intn(len(ids))], files: lists[(i+j)%len(lists)], time: int64(j) - 1, note: []string{"", "note", "\n"}[j%3]}
			if j%2 == 0 {
				c.parents = []string{c.b, c.a}[j%4/2:]
				c.files = lists[j%5]
				c.time, c.note = int64(j), "note"
			}
			cases = append(cases, c)
		}
	}
	return cases
}

// tellGraphs: what all functions of chapter 9 answer to these arguments, in words.
func tellGraphs(c graphCase) string {
	return fmt.Sprintf("%#v %#v %v %#v %#v %#v %#v %#v", impl.ParentsOf(c.store, c.a), impl.HistoryOf(c.store, c.a), impl.IsAncestor(c.store, c.a, c.b), impl.BasesOf(c.store, c.a, c.b), impl.GenerationOf(c.store, c.a), impl.CommitFiles(c.store, c.a), impl.LogText(c.store, c.a), impl.AddCommit(c.store, c.files, c.parents, c.time, c.note))
}

func TestPromise1HistoriesHangOnTheArgumentsAlone(t *testing.T) {
	cases := anyGraphs()
	tell := func(i int) string {
		c := cases[i]
		c.store, c.files, c.parents = slices.Clone(c.store), slices.Clone(c.files), slices.Clone(c.parents)
		c.a, c.b, c.note = strings.Clone(c.a), strings.Clone(c.b), strings.Clone(c.note)
		return tellGraphs(c)
	}
	answers := make([]string, len(cases))
	for i := range answers {
		answers[i] = tell(i)
	}
	// Backwards each call stands behind other ones than before.
	for i := len(answers) - 1; i >= 0; i-- {
		if tell(i) != answers[i] {
			t.Errorf("case %d: another answer at the second call", i)
		}
	}
	// Often, so that no order in which a map is gone through is seen.
	store := storeOf(randomGraph(rand.New(rand.NewSource(17)), 40, 1, false)...)
	c := graphCase{store: store, a: idNumbered(39), b: idNumbered(38), parents: []string{idNumbered(3), idNumbered(9)}}
	once := tellGraphs(c)
	for range 50 {
		if tellGraphs(c) != once {
			t.Error("another answer at another call")
		}
	}
}

func TestPromise1HistoriesChangeNoArgument(t *testing.T) {
	for i, c := range anyGraphs() {
		// What lies behind a list in its memory is not the function's either.
		store, files, parents := append(slices.Clone(c.store), impl.Object{Id: "behind", Kind: 7}), append(slices.Clone(c.files), impl.File{Path: "behind"}), append(slices.Clone(c.parents), "behind")
		keptStore, keptFiles, keptParents := slices.Clone(store), slices.Clone(files), slices.Clone(parents)
		c.store, c.files, c.parents = store[:len(store)-1], files[:len(files)-1], parents[:len(parents)-1]
		tellGraphs(c)
		if !slices.Equal(store, keptStore) || !slices.Equal(files, keptFiles) || !slices.Equal(parents, keptParents) {
			t.Errorf("case %d: a list was changed, or what lies behind it", i)
		}
	}
}

func TestPromise1HistoriesAreNewMemory(t *testing.T) {
	files := fullFiles(12, 2)
	first := impl.AddCommit(fullStore(15, 3), files, nil, 1, "first")
	next := impl.AddCommit(first.Store, files[3:], []string{first.Id}, 2, "next")
	store, a, b := next.Store, next.Id, first.Id
	given := slices.Concat(textsOfStore(store), textsOfFiles(files...), []string{a, b})
	lists := func() map[string][]string {
		return map[string][]string{"ParentsOf": impl.ParentsOf(store, a).Lines, "HistoryOf": impl.HistoryOf(store, a).Lines, "HistoryOf the first": impl.HistoryOf(store, b).Lines, "BasesOf": impl.BasesOf(store, a, b).Lines, "BasesOf the same": impl.BasesOf(store, a, a).Lines}
	}
	kept := lists()
	for name, lines := range lists() {
		if len(lines) == 0 {
			t.Errorf("%s: nothing is told", name)
		}
		wantNewTexts(t, name, given, slices.Clone(lines))
		for i := range lines {
			lines[i] = "changed"
		}
	}
	if again := lists(); !maps.EqualFunc(again, kept, slices.Equal) {
		t.Error("two answers share their list")
	}
	read := impl.CommitFiles(store, a)
	wantNewTexts(t, "CommitFiles", given, textsOfFiles(read.Files...))
	wantNewTexts(t, "LogText", given, []string{impl.LogText(store, a).Text, impl.LogText(store, b).Text})
	for i := range read.Files {
		read.Files[i] = impl.File{}
	}
	if !slices.Equal(impl.CommitFiles(store, a).Files, files[3:]) {
		t.Error("two answers of CommitFiles share their list")
	}
	wantNewCommit(t, store, given, files, []string{strings.Clone(a), strings.Clone(b)})
}

func wantNewCommit(t *testing.T, store []impl.Object, given []string, files []impl.File, parents []string) {
	t.Helper()
	note := strings.Repeat("n", 20)
	keptStore, keptFiles, keptParents := slices.Clone(store), slices.Clone(files), slices.Clone(parents)
	for _, name := range []string{"a new one", "one that is there"} {
		added := impl.AddCommit(store, files, parents, 3, note)
		if added.Code != impl.OK {
			t.Fatalf("%s: AddCommit = %d", name, added.Code)
		}
		wantNewTexts(t, name, slices.Concat(given, textsOfStore(store), parents, []string{note}), append(textsOfStore(added.Store), added.Id))
		again := impl.AddCommit(store, files, parents, 3, note)
		for i := range added.Store {
			added.Store[i] = impl.Object{}
		}
		if !slices.Equal(store, keptStore) || !slices.Equal(files, keptFiles) || !slices.Equal(parents, keptParents) {
			t.Errorf("%s: an answer shares its list with an argument", name)
		}
		store = again.Store
		keptStore = slices.Clone(store)
	}
}
