package tests

import (
	"fmt"
	"math"
	"math/rand"
	"regexp"
	"slices"
	"strconv"
	"strings"
	"testing"

	"loop.example/g00172/impl"
)

func TestNumbersOfTheModes(t *testing.T) {
	got := []int64{impl.ModeFile, impl.ModeRun, impl.ModeTree}
	if !slices.Equal(got, []int64{1, 2, 3}) {
		t.Errorf("modes: %d", got)
	}
}

var wrongModes = []int64{math.MinInt64, -3, -1, 0, 4, 5, 1<<32 + 1, 1<<32 + 3, math.MaxInt64}

var nameForm = regexp.MustCompile(`\A[a-z0-9._\-]{1,12}\z`)
var idForm = regexp.MustCompile(`\A[btc][0-9a-f]{4}\z`)
var noteForm = regexp.MustCompile(`\A[ -~]{0,60}\z`)
var treeLineForm = regexp.MustCompile(`\A(file|run|tree) ([^ \n]+) ([^ \n]+)\n\z`)
var commitForm = regexp.MustCompile(`\Atree (t[0-9a-f]{4})\n((?:parent c[0-9a-f]{4}\n){0,3})time (0|[1-9][0-9]{0,9})\nnote ([ -~]{0,60})\n\z`)

func nameFaultByWords(name string) int64 {
	if !nameForm.MatchString(name) || name == "." || name == ".." {
		return impl.ErrForm
	}
	return impl.OK
}

func isIdByWords(letter string, id string) bool {
	return strings.HasPrefix(id, letter) && idForm.MatchString(id)
}

// treeTextByWords writes what the document says, whatever the entries are.
func treeTextByWords(list []impl.TreeEntry) string {
	words := map[int64]string{1: "file", 2: "run", 3: "tree"}
	var text strings.Builder
	for _, e := range list {
		fmt.Fprintf(&text, "%s %s %s\n", words[e.Mode], e.Id, e.Name)
	}
	return text.String()
}

func treeFaultByWords(list []impl.TreeEntry) int64 {
	if len(list) > maxLines {
		return impl.ErrMany
	}
	for i, e := range list {
		if nameFaultByWords(e.Name) != impl.OK {
			return impl.ErrForm
		}
		if !slices.Contains([]int64{1, 2, 3}, e.Mode) {
			return impl.ErrRange
		}
		if !isIdByWords(map[int64]string{1: "b", 2: "b", 3: "t"}[e.Mode], e.Id) {
			return impl.ErrForm
		}
		if i > 0 && !isAbove(e.Name, list[i-1].Name) {
			return impl.ErrForm
		}
	}
	if len(treeTextByWords(list)) > maxText {
		return impl.ErrMany
	}
	return impl.OK
}

// isAbove goes byte by byte: where one is the beginning of the other, the longer one is above.
func isAbove(name string, ahead string) bool {
	for i := range min(len(name), len(ahead)) {
		if name[i] != ahead[i] {
			return name[i] > ahead[i]
		}
	}
	return len(name) > len(ahead)
}

// decodeTreeByForm holds each line against its form; the numbers of the modes are the places of their words.
func decodeTreeByForm(data string) impl.TreeResult {
	var list []impl.TreeEntry
	for _, line := range strings.SplitAfter(data, "\n") {
		if line == "" {
			continue
		}
		parts := treeLineForm.FindStringSubmatch(line)
		if parts == nil {
			return impl.TreeResult{Code: impl.ErrText}
		}
		mode := slices.Index([]string{"", "file", "run", "tree"}, parts[1])
		list = append(list, impl.TreeEntry{Name: parts[3], Mode: int64(mode), Id: parts[2]})
	}
	if treeFaultByWords(list) != impl.OK {
		return impl.TreeResult{Code: impl.ErrText}
	}
	return impl.TreeResult{Entries: list}
}

func sameTreeResult(a impl.TreeResult, b impl.TreeResult) bool {
	return a.Code == b.Code && slices.Equal(a.Entries, b.Entries)
}

// checkTree holds all that the chapter says of one list of entries against what is reckoned here.
func checkTree(t *testing.T, name string, list []impl.TreeEntry) int64 {
	t.Helper()
	code := treeFaultByWords(list)
	if got := impl.TreeFault(list); got != code {
		t.Errorf("%s: TreeFault = %d, want %d", name, got, code)
	}
	want := impl.TextResult{Code: code}
	if code == impl.OK {
		want.Text = treeTextByWords(list)
	}
	got := impl.EncodeTree(list)
	if got != want {
		t.Errorf("%s: EncodeTree = %#v, want %#v", name, got, want)
	}
	if code != impl.OK {
		// No text is that of entries with a fault, though one can be written.
		if r := impl.DecodeTree(treeTextByWords(list)); !sameTreeResult(r, impl.TreeResult{Code: impl.ErrText}) {
			t.Errorf("%s: DecodeTree of what has a fault = %#v", name, r)
		}
		return code
	}
	if r := impl.DecodeTree(got.Text); !sameTreeResult(r, impl.TreeResult{Entries: list}) {
		t.Errorf("%s: DecodeTree(%q) = %#v, want %#v", name, got.Text, r, list)
	}
	return code
}

func fileOf(name string) impl.TreeEntry {
	return impl.TreeEntry{Name: name, Mode: impl.ModeFile, Id: "b03f6"}
}

// entriesOf: so many files, whose names all have so many bytes, rising.
func entriesOf(count int, length int) []impl.TreeEntry {
	var list []impl.TreeEntry
	for i := range count {
		list = append(list, fileOf(fmt.Sprintf("%0*d", length, i)))
	}
	return list
}

func TestNameFault(t *testing.T) {
	for _, name := range []string{
		"a", "z", "0", "9", "_", "-", "...", "....", ".a", "a.", "..a", "a..", ".-", "._", "-.", "..-", "abcdefghijkl", "mnopqrstuvwx", "0123456789.-", "____________", "............", "------------", "readme.txt", "-a", "a-b_c.d", "00", "aa",
	} {
		if got := impl.NameFault(name); got != impl.OK {
			t.Errorf("NameFault(%q) = %d", name, got)
		}
	}
	for _, name := range []string{
		"", ".", "..", "abcdefghijklm", "0123456789012", ".............", "A", "Z", "aB", "a b", " a", "a ", " ", "a\n", "\n", "a/b", "/", "/a", "a/", "\x00", "a\x00", "\x7f", "\x80", "\xff", "a:", "a`", "a{", "a@", "a[", "a^", "a,", "a+", "\u00e9", "\u0663", "\uff41", "~", "*", "\\", strings.Repeat("a", 100000),
	} {
		if got := impl.NameFault(name); got != impl.ErrForm {
			t.Errorf("NameFault(%q) = %d, want ErrForm", name, got)
		}
	}
}

func TestNameFaultAtEveryByte(t *testing.T) {
	check := func(name string) {
		if got, want := impl.NameFault(name), nameFaultByWords(name); got != want {
			t.Errorf("NameFault(%q) = %d, want %d", name, got, want)
		}
	}
	for b := range 256 {
		one := string([]byte{byte(b)})
		for length := range 15 {
			check(strings.Repeat(one, length))
			for at := range length {
				check(strings.Repeat("a", at) + one + strings.Repeat(".", length-at-1))
			}
		}
	}
	for _, parts := range listsOver([]string{".", "a", "-", "/", "A"}, 4) {
		check(strings.Join(parts, ""))
	}
}

func TestPromise7EverySmallTree(t *testing.T) {
	pool := []impl.TreeEntry{
		{Name: "a", Mode: 1, Id: "b03f6"}, {Name: "a", Mode: 3, Id: "t0007"}, {Name: "a.", Mode: 2, Id: "bffff"}, {Name: "a-b", Mode: 3, Id: "t0000"}, {Name: "b", Mode: 2, Id: "b03f6"}, {Name: "...", Mode: 1, Id: "b0007"},
		{Name: "z", Mode: 3, Id: "b03f6"}, {Name: "z", Mode: 1, Id: "t03f6"}, {Name: "z", Mode: 2, Id: "c03f6"}, {Name: "z", Mode: 0, Id: "b03f6"}, {Name: "z", Mode: 4, Id: "t0007"}, {Name: "", Mode: 1, Id: "b03f6"}, {Name: ".", Mode: 9, Id: ""}, {},
	}
	numbers := make([]string, len(pool))
	for i := range numbers {
		numbers[i] = strconv.Itoa(i)
	}
	codes := map[int64]int{}
	for _, places := range listsOver(numbers, 3) {
		var list []impl.TreeEntry
		for _, place := range places {
			i, _ := strconv.Atoi(place)
			list = append(list, pool[i])
		}
		codes[checkTree(t, fmt.Sprintf("%#v", list), list)]++
	}
	if codes[impl.OK] < 20 || codes[impl.ErrForm] < 100 || codes[impl.ErrRange] < 100 {
		t.Errorf("the small trees do not reach all codes: %v", codes)
	}
}

func TestPromise7KnownTrees(t *testing.T) {
	all := []impl.TreeEntry{{Name: "-", Mode: 2, Id: "b0000"}, {Name: "a", Mode: 1, Id: "b03f6"}, {Name: "abcdefghijkl", Mode: 3, Id: "t0007"}, {Name: "dir", Mode: 3, Id: "tffff"}}
	const text = "run b0000 -\nfile b03f6 a\ntree t0007 abcdefghijkl\ntree tffff dir\n"
	if r := impl.EncodeTree(all); r != (impl.TextResult{Text: text}) {
		t.Errorf("EncodeTree = %#v", r)
	}
	if r := impl.DecodeTree(text); !sameTreeResult(r, impl.TreeResult{Entries: all}) {
		t.Errorf("DecodeTree = %#v", r)
	}
	for _, none := range [][]impl.TreeEntry{nil, {}} {
		if impl.TreeFault(none) != impl.OK || impl.EncodeTree(none) != (impl.TextResult{}) {
			t.Error("a tree of no entry")
		}
	}
	if r := impl.DecodeTree(""); r.Code != impl.OK || len(r.Entries) != 0 {
		t.Errorf("the text of no entry: %#v", r)
	}
}

func TestPromise7TreesAtTheirBounds(t *testing.T) {
	// A line of a file has 12 bytes beside its name, one of a run 11.
	longer := func(list []impl.TreeEntry) []impl.TreeEntry {
		list[len(list)-1].Name += "0"
		return list
	}
	run := func(list []impl.TreeEntry) []impl.TreeEntry {
		list[0].Mode = impl.ModeRun
		return list
	}
	cases := []struct {
		name  string
		list  []impl.TreeEntry
		bytes int
		code  int64
	}{
		{"one entry", entriesOf(1, 1), 13, impl.OK},
		{"one entry of a long name", entriesOf(1, 12), 24, impl.OK},
		{"as many as may be", entriesOf(maxLines, 2), 1400, impl.OK},
		{"one more", entriesOf(maxLines+1, 3), 1515, impl.ErrMany},
		{"far more", entriesOf(5000, 4), 80000, impl.ErrMany},
		{"as many and as long as may be", entriesOf(maxLines, 8), maxText, impl.OK},
		{"as many as may be, a byte too long", longer(entriesOf(maxLines, 8)), maxText + 1, impl.ErrMany},
		{"a byte too long, and one less by a run", run(longer(entriesOf(maxLines, 8))), maxText, impl.OK},
		{"a byte short of too long", run(entriesOf(maxLines, 8)), maxText - 1, impl.OK},
		{"as many as may be, of long names", entriesOf(maxLines, 12), 2400, impl.ErrMany},
		{"long names, just short enough", entriesOf(83, 12), 1992, impl.OK},
		{"long names, just too long", entriesOf(84, 12), 2016, impl.ErrMany},
	}
	for _, c := range cases {
		if got := len(treeTextByWords(c.list)); got != c.bytes {
			t.Fatalf("%s: %d bytes, want %d", c.name, got, c.bytes)
		}
		if got := checkTree(t, c.name, c.list); got != c.code {
			t.Errorf("%s: %d, want %d", c.name, got, c.code)
		}
	}
}

func randomName(random *rand.Rand) string {
	const letters = "abz019._-"
	name := make([]byte, 1+random.Intn(12))
	for i := range name {
		name[i] = letters[random.Intn(len(letters))]
	}
	return string(name)
}

// randomTree: so many entries, rising, fewer where a name comes twice or is none.
func randomTree(random *rand.Rand, count int) []impl.TreeEntry {
	byName := map[string]impl.TreeEntry{}
	for range count {
		mode := int64(1 + random.Intn(3))
		letter := []string{"b", "b", "t"}[mode-1]
		if name := randomName(random); nameFaultByWords(name) == impl.OK {
			byName[name] = impl.TreeEntry{Name: name, Mode: mode, Id: fmt.Sprintf("%s%04x", letter, random.Intn(65536))}
		}
	}
	var list []impl.TreeEntry
	for _, entry := range byName {
		list = append(list, entry)
	}
	slices.SortFunc(list, func(a impl.TreeEntry, b impl.TreeEntry) int { return strings.Compare(a.Name, b.Name) })
	return list
}

func TestPromise7RandomTrees(t *testing.T) {
	random := rand.New(rand.NewSource(7))
	codes := map[int64]int{}
	for round := range 600 {
		list := randomTree(random, random.Intn(115))
		codes[checkTree(t, fmt.Sprintf("round %d", round), list)]++
		if len(list) < 2 {
			continue
		}
		// Two that change their places are no longer in order.
		i := random.Intn(len(list) - 1)
		list[i], list[i+1] = list[i+1], list[i]
		checkTree(t, fmt.Sprintf("round %d, out of order at %d", round, i), list)
		list[i] = list[i+1]
		checkTree(t, fmt.Sprintf("round %d, one twice at %d", round, i), list)
	}
	if codes[impl.OK] < 300 || codes[impl.ErrMany] < 20 {
		t.Errorf("the random trees do not reach both codes: %v", codes)
	}
}

func TestNamesOfATreeRise(t *testing.T) {
	rising := []string{"-", "--", "-a", "...", "..a", ".a", "0", "00", "01", "09", "1", "10", "9", "_", "_a", "a", "a-", "a-b", "a.", "a.b", "a0", "a_", "aa", "aaa", "ab", "b", "z", "zz"}
	for i, ahead := range rising {
		for j, name := range rising {
			want := int64(impl.OK)
			if j <= i {
				want = impl.ErrForm
			}
			for _, modes := range [][2]int64{{1, 1}, {3, 1}, {1, 3}, {3, 3}} {
				list := []impl.TreeEntry{fileOf(ahead), fileOf(name)}
				for k := range list {
					if list[k].Mode = modes[k]; modes[k] == impl.ModeTree {
						list[k].Id = "t0007"
					}
				}
				if got := checkTree(t, fmt.Sprintf("%q behind %q", name, ahead), list); got != want {
					t.Errorf("%q behind %q: %d, want %d", name, ahead, got, want)
				}
			}
		}
	}
	var all []impl.TreeEntry
	for _, name := range rising {
		all = append(all, fileOf(name))
	}
	if checkTree(t, "all that rise", all) != impl.OK {
		t.Error("all that rise have a fault")
	}
	// Each is asked of the one ahead, wherever it stands.
	for i := 1; i < len(all); i++ {
		list := slices.Clone(all)
		list[i] = list[i-1]
		if checkTree(t, "one twice", list) != impl.ErrForm {
			t.Errorf("the name at %d is there twice", i)
		}
	}
}

// wrongIds: texts that are no id of any kind.
var wrongIds = []string{"", "b", "b03f", "b03f66", "B03f6", "b03F6", "b03fg", "03f6", "d03f6", " b03f6", "b03f6 ", "b03f6\n", "b03 6", "t0007t0007", "\x00\x00\x00\x00\x00", strings.Repeat("t0007", 1000)}

func TestIdsOfATree(t *testing.T) {
	for _, id := range slices.Concat(wrongIds, []string{"b03f6", "t03f6", "c03f6", "bffff", "tffff", "b0000", "t0000"}) {
		for mode := int64(1); mode <= 3; mode++ {
			isRight := strings.HasPrefix(id, map[int64]string{1: "b", 2: "b", 3: "t"}[mode]) && !slices.Contains(wrongIds, id)
			list := []impl.TreeEntry{fileOf("a"), {Name: "b", Mode: mode, Id: id}}
			if got := checkTree(t, fmt.Sprintf("mode %d of %.10q", mode, id), list); (got == impl.OK) != isRight {
				t.Errorf("mode %d of %.10q: %d", mode, id, got)
			}
		}
	}
}

// faultyTrees: lists of entries with a fault of each kind, and the code of it.
func faultyTrees() map[string]struct {
	list []impl.TreeEntry
	code int64
} {
	type faulty = struct {
		list []impl.TreeEntry
		code int64
	}
	a, b := fileOf("a"), fileOf("b")
	form, many, wrong := int64(impl.ErrForm), int64(impl.ErrMany), int64(impl.ErrRange)
	with := func(list []impl.TreeEntry, at int, entry impl.TreeEntry) []impl.TreeEntry {
		list[at] = entry
		return list
	}
	trees := map[string]faulty{
		"a zero entry":                              {[]impl.TreeEntry{{}}, form},
		"no name and a wrong mode":                  {[]impl.TreeEntry{{Mode: 4, Id: "b03f6"}}, form},
		"a wrong mode and a wrong id":               {[]impl.TreeEntry{{Name: "a", Mode: 4, Id: "none"}}, wrong},
		"a wrong mode of one that is not above":     {[]impl.TreeEntry{b, {Name: "a", Mode: 0, Id: "b03f6"}}, wrong},
		"a wrong name behind a wrong mode":          {[]impl.TreeEntry{{Name: "a", Mode: 0, Id: "b03f6"}, {Name: "..", Mode: 1, Id: "b03f6"}}, wrong},
		"a wrong mode behind a wrong name":          {[]impl.TreeEntry{{Name: "..", Mode: 1, Id: "b03f6"}, {Name: "a", Mode: 0, Id: "b03f6"}}, form},
		"a wrong mode behind a wrong id":            {[]impl.TreeEntry{{Name: "a", Mode: 1, Id: "t03f6"}, {Name: "b", Mode: 0, Id: "b03f6"}}, form},
		"a wrong mode behind one that is not above": {[]impl.TreeEntry{b, a, {Name: "c", Mode: 9, Id: "b03f6"}}, form},
		"one twice":                                   {[]impl.TreeEntry{a, a}, form},
		"a file and a tree of one name":               {[]impl.TreeEntry{a, {Name: "a", Mode: 3, Id: "t0007"}}, form},
		"not above, two ahead":                        {[]impl.TreeEntry{a, fileOf("c"), b}, form},
		"a wrong name, last":                          {append(entriesOf(20, 2), fileOf("a/b")), form},
		"too many":                                    {entriesOf(maxLines+1, 3), many},
		"too many, of nothing":                        {make([]impl.TreeEntry, maxLines+1), many},
		"too many, the first of a wrong mode":         {with(entriesOf(maxLines+1, 3), 0, impl.TreeEntry{Name: "a"}), many},
		"far too many":                                {make([]impl.TreeEntry, 100000), many},
		"too long":                                    {entriesOf(maxLines, 9), many},
		"too long, the first of a wrong mode":         {with(entriesOf(maxLines, 9), 0, impl.TreeEntry{Name: "00", Mode: 4}), wrong},
		"too long, the last of a wrong mode":          {with(entriesOf(maxLines, 9), maxLines-1, impl.TreeEntry{Name: "zz", Mode: 4}), wrong},
		"too long, the last with a wrong id":          {with(entriesOf(maxLines, 9), maxLines-1, impl.TreeEntry{Name: "zz", Mode: 3, Id: "b03f6"}), form},
		"too long, the last not above the one ahead":  {with(entriesOf(maxLines, 9), maxLines-1, fileOf("0")), form},
		"too long by a name that is none":             {[]impl.TreeEntry{fileOf(strings.Repeat("a", maxText+1))}, form},
		"too long by an id that is none":              {[]impl.TreeEntry{{Name: "a", Mode: 1, Id: strings.Repeat("b03f6", maxText)}}, form},
		"as many as may be, the last of a wrong name": {with(entriesOf(maxLines, 2), maxLines-1, fileOf("A")), form},
	}
	for _, mode := range wrongModes {
		trees["mode "+strconv.FormatInt(mode, 10)] = faulty{[]impl.TreeEntry{a, {Name: "b", Mode: mode, Id: "b03f6"}}, wrong}
	}
	return trees
}

func TestTreesWithAFault(t *testing.T) {
	for name, c := range faultyTrees() {
		if got := checkTree(t, name, c.list); got != c.code {
			t.Errorf("%s: %d, want %d", name, got, c.code)
		}
		if r := impl.EncodeTree(c.list); r != (impl.TextResult{Code: c.code}) {
			t.Errorf("%s: EncodeTree = %#v, want %d", name, r, c.code)
		}
	}
}

// spoilt: every text that is text with one byte out, one byte other, or one byte more, and with two neighbours changed.
func spoilt(text string, bytes string) []string {
	texts := []string{text}
	for at := range len(text) + 1 {
		for i := range len(bytes) {
			texts = append(texts, text[:at]+bytes[i:i+1]+text[at:])
			if at < len(text) {
				texts = append(texts, text[:at]+bytes[i:i+1]+text[at+1:])
			}
		}
		if at < len(text) {
			texts = append(texts, text[:at], text[at:], text[:at]+text[at+1:])
		}
		if at+1 < len(text) {
			texts = append(texts, text[:at]+text[at+1:at+2]+text[at:at+1]+text[at+2:])
		}
	}
	return texts
}

const spoilers = " \n\t\r\x00\x1f\x7f\x80\xff~.-_/09afgztbcAF+"

func TestDecodeTreeReadsOneFormOnly(t *testing.T) {
	read := 0
	for _, text := range []string{"", "file b03f6 a\n", "run bffff abcdefghijkl\n", "tree t0007 dir\n", "file b03f6 a\nrun b0000 a.\ntree t0007 b\n", "run b1111 1\nrun b1111 2\n"} {
		for _, data := range spoilt(text, spoilers) {
			got, want := impl.DecodeTree(data), decodeTreeByForm(data)
			if !sameTreeResult(got, want) {
				t.Errorf("DecodeTree(%q) = %#v, want %#v", data, got, want)
			}
			if want.Code == impl.OK {
				read++
			}
			if want.Code == impl.OK && impl.EncodeTree(got.Entries) != (impl.TextResult{Text: data}) {
				t.Errorf("DecodeTree(%q) reads another form", data)
			}
		}
	}
	if read < 200 {
		t.Errorf("of the texts only %d are read", read)
	}
}

func TestDecodeTreeRefuses(t *testing.T) {
	for name, data := range map[string]string{
		"a blank":                          " ",
		"a line feed":                      "\n",
		"a line feed ahead":                "\nfile b03f6 a\n",
		"a line feed behind":               "file b03f6 a\n\n",
		"an empty line between":            "file b03f6 a\n\nfile b03f6 b\n",
		"no line feed":                     "file b03f6 a",
		"no line feed at the last":         "file b03f6 a\nfile b03f6 b",
		"no line feed between":             "file b03f6 afile b03f6 b\n",
		"a blank ahead":                    " file b03f6 a\n",
		"a blank behind":                   "file b03f6 a \n",
		"two blanks":                       "file  b03f6 a\n",
		"two blanks ahead of the name":     "file b03f6  a\n",
		"no blank":                         "fileb03f6 a\n",
		"no blank ahead of the name":       "file b03f6a\n",
		"a tab":                            "file\tb03f6 a\n",
		"a carriage return":                "file b03f6 a\r\n",
		"another word":                     "link b03f6 a\n",
		"a great letter":                   "File b03f6 a\n",
		"the beginning of a word":          "fil b03f6 a\n",
		"more than a word":                 "files b03f6 a\n",
		"no word":                          " b03f6 a\n",
		"a number for a word":              "1 b03f6 a\n",
		"another order":                    "file a b03f6\n",
		"the id first":                     "b03f6 file a\n",
		"no name":                          "file b03f6 \n",
		"no name and no blank":             "file b03f6\n",
		"the word alone":                   "file\n",
		"no id":                            "file  a\n",
		"one word more":                    "file b03f6 a b\n",
		"a file of a tree's id":            "file t0007 a\n",
		"a tree of a blob's id":            "tree b03f6 a\n",
		"a run of a commit's id":           "run c0007 a\n",
		"an id of great letters":           "file b03F6 a\n",
		"a name that is none":              "file b03f6 ..\n",
		"a path":                           "file b03f6 a/b\n",
		"a name that is too long":          "file b03f6 abcdefghijklm\n",
		"not in order":                     "file b03f6 b\nfile b03f6 a\n",
		"one twice":                        "file b03f6 a\nfile b03f6 a\n",
		"one twice, of two modes":          "file b03f6 a\ntree t0007 a\n",
		"one line that is none":            "file b03f6 a\nfile b03f6 b\nx\n",
		"a commit":                         "tree t0007\ntime 5\nnote \n",
		"too many lines":                   treeTextByWords(entriesOf(maxLines+1, 3)),
		"a byte too long":                  treeTextByWords(append(entriesOf(99, 8), fileOf("999999999"))),
		"far too long":                     treeTextByWords(entriesOf(9999, 12)),
		"one line that is far too long":    strings.Repeat("file ", 100000),
		"a name that is far too long":      "file b03f6 " + strings.Repeat("a", maxText) + "\n",
		"as many lines as may be, of none": strings.Repeat("\n", maxLines),
	} {
		if r := impl.DecodeTree(data); !sameTreeResult(r, impl.TreeResult{Code: impl.ErrText}) {
			t.Errorf("%s: DecodeTree = %#v, want ErrText", name, r)
		}
		if r := decodeTreeByForm(data); r.Code != impl.ErrText {
			t.Errorf("%s: this is a tree", name)
		}
	}
}

func commitTextByWords(c impl.Commit) string {
	var text strings.Builder
	fmt.Fprintf(&text, "tree %s\n", c.Tree)
	for _, parent := range c.Parents {
		fmt.Fprintf(&text, "parent %s\n", parent)
	}
	fmt.Fprintf(&text, "time %d\nnote %s\n", c.Time, c.Note)
	return text.String()
}

func commitFaultByWords(c impl.Commit) int64 {
	if !isIdByWords("t", c.Tree) {
		return impl.ErrForm
	}
	if len(c.Parents) > 3 {
		return impl.ErrMany
	}
	for i, parent := range c.Parents {
		if !isIdByWords("c", parent) || slices.Index(c.Parents, parent) < i {
			return impl.ErrForm
		}
	}
	if c.Time < 0 || c.Time > 1e9 {
		return impl.ErrRange
	}
	if !noteForm.MatchString(c.Note) {
		return impl.ErrText
	}
	return impl.OK
}

func decodeCommitByForm(data string) impl.CommitResult {
	parts := commitForm.FindStringSubmatch(data)
	if parts == nil {
		return impl.CommitResult{Code: impl.ErrText}
	}
	c := impl.Commit{Tree: parts[1], Note: parts[4]}
	for _, word := range strings.Fields(parts[2]) {
		if word != "parent" {
			c.Parents = append(c.Parents, word)
		}
	}
	c.Time, _ = strconv.ParseInt(parts[3], 10, 64)
	if commitFaultByWords(c) != impl.OK {
		return impl.CommitResult{Code: impl.ErrText}
	}
	return impl.CommitResult{Commit: c}
}

func sameCommit(a impl.Commit, b impl.Commit) bool {
	return a.Tree == b.Tree && slices.Equal(a.Parents, b.Parents) && a.Time == b.Time && a.Note == b.Note
}

func sameCommitResult(a impl.CommitResult, b impl.CommitResult) bool {
	return a.Code == b.Code && sameCommit(a.Commit, b.Commit)
}

// checkCommit holds all that the chapter says of one commit against what is reckoned here.
func checkCommit(t *testing.T, name string, c impl.Commit) int64 {
	t.Helper()
	code := commitFaultByWords(c)
	if got := impl.CommitFault(c); got != code {
		t.Errorf("%s: CommitFault = %d, want %d", name, got, code)
	}
	want := impl.TextResult{Code: code}
	if code == impl.OK {
		want.Text = commitTextByWords(c)
	}
	got := impl.EncodeCommit(c)
	if got != want {
		t.Errorf("%s: EncodeCommit = %#v, want %#v", name, got, want)
	}
	if code != impl.OK {
		if r := impl.DecodeCommit(commitTextByWords(c)); !sameCommitResult(r, impl.CommitResult{Code: impl.ErrText}) {
			t.Errorf("%s: DecodeCommit of what has a fault = %#v", name, r)
		}
		return code
	}
	if r := impl.DecodeCommit(got.Text); !sameCommitResult(r, impl.CommitResult{Commit: c}) {
		t.Errorf("%s: DecodeCommit(%q) = %#v, want %#v", name, got.Text, r, c)
	}
	return code
}

func TestPromise7KnownCommits(t *testing.T) {
	for text, c := range map[string]impl.Commit{
		"tree t0007\ntime 5\nnote hi you\n":                                                     {Tree: "t0007", Time: 5, Note: "hi you"},
		"tree t0007\ntime 0\nnote \n":                                                           {Tree: "t0007"},
		"tree tffff\nparent c0000\ntime 1000000000\nnote  \n":                                   {Tree: "tffff", Parents: []string{"c0000"}, Time: 1e9, Note: " "},
		"tree t0000\nparent cffff\nparent c0000\ntime 10\nnote note \n":                         {Tree: "t0000", Parents: []string{"cffff", "c0000"}, Time: 10, Note: "note "},
		"tree t0123\nparent c0002\nparent c0001\nparent c0003\ntime 999999999\nnote  time 5 \n": {Tree: "t0123", Parents: []string{"c0002", "c0001", "c0003"}, Time: 999999999, Note: " time 5 "},
	} {
		if checkCommit(t, text, c) != impl.OK {
			t.Errorf("%q has a fault", text)
		}
		if r := impl.EncodeCommit(c); r != (impl.TextResult{Text: text}) {
			t.Errorf("EncodeCommit = %#v, want %q", r, text)
		}
		if r := impl.DecodeCommit(text); !sameCommitResult(r, impl.CommitResult{Commit: c}) {
			t.Errorf("DecodeCommit(%q) = %#v", text, r)
		}
	}
}

func TestPromise7EveryCommitOfFewParts(t *testing.T) {
	trees := []string{"t0007", "tffff", "b0007", "c0007", "", "t07"}
	times := []int64{0, 1, 10, 1e9 - 1, 1e9, 1e9 + 1, -1, math.MinInt64, math.MaxInt64, 1 << 32}
	notes := []string{"", " ", "a", " a ", "~", strings.Repeat(" ", 60), strings.Repeat("x", 60), strings.Repeat("x", 61), strings.Repeat(" ", 61), "a\n", "\n", "\x1f", "\x7f", "\x00", "a\x80", "\u00e9", "a\tb"}
	codes := map[int64]int{}
	for _, parents := range listsOver([]string{"c0001", "c0002", "cffff", "t0001", "", "c0001 "}, 3) {
		for _, tree := range trees {
			for i, time := range times {
				note := notes[(i+5*len(parents))%len(notes)]
				if len(parents) > 1 && i > 5 {
					continue
				}
				c := impl.Commit{Tree: tree, Parents: parents, Time: time, Note: note}
				codes[checkCommit(t, fmt.Sprintf("%#v", c), c)]++
			}
		}
	}
	for _, parents := range [][]string{nil, {}, {"c0001"}, {"c0001", "c0002", "c0003"}, {"c0001", "c0002", "c0003", "c0004"}} {
		for _, time := range times {
			for _, note := range notes {
				c := impl.Commit{Tree: "t0007", Parents: parents, Time: time, Note: note}
				codes[checkCommit(t, fmt.Sprintf("%#v", c), c)]++
			}
		}
	}
	for _, code := range []int64{impl.OK, impl.ErrForm, impl.ErrMany, impl.ErrRange, impl.ErrText} {
		if codes[code] < 50 {
			t.Errorf("the commits do not reach code %d: %v", code, codes)
		}
	}
}

func TestNotesOfEveryByte(t *testing.T) {
	for b := range 256 {
		one := string([]byte{byte(b)})
		want := int64(impl.OK)
		if b < 32 || b > 126 {
			want = impl.ErrText
		}
		for _, note := range []string{one, one + "a", "a" + one, "a" + one + "a", strings.Repeat(one, 60), strings.Repeat("a", 59) + one} {
			if got := checkCommit(t, fmt.Sprintf("note %q", note), impl.Commit{Tree: "t0007", Note: note}); got != want {
				t.Errorf("note %q: %d, want %d", note, got, want)
			}
		}
		if got := checkCommit(t, "a note that is too long", impl.Commit{Tree: "t0007", Note: strings.Repeat(one, 61)}); got != impl.ErrText {
			t.Errorf("a note of 61 bytes: %d", got)
		}
	}
}

func TestPromise7RandomCommits(t *testing.T) {
	random := rand.New(rand.NewSource(8))
	for round := range 2000 {
		note := make([]byte, random.Intn(61))
		for i := range note {
			note[i] = byte(32 + random.Intn(95))
		}
		c := impl.Commit{Tree: fmt.Sprintf("t%04x", random.Intn(65536)), Time: random.Int63n(1e9 + 1), Note: string(note)}
		for range random.Intn(4) {
			c.Parents = append(c.Parents, fmt.Sprintf("c%04x", random.Intn(20)))
		}
		checkCommit(t, fmt.Sprintf("round %d", round), c)
	}
}

// faultyCommits: commits with several faults, and the code of the one that is asked first.
func faultyCommits() map[string]struct {
	c    impl.Commit
	code int64
} {
	type faulty = struct {
		c    impl.Commit
		code int64
	}
	form, many, wrong, text := int64(impl.ErrForm), int64(impl.ErrMany), int64(impl.ErrRange), int64(impl.ErrText)
	four, bad := []string{"c0001", "c0002", "c0003", "c0004"}, "\n"
	commits := map[string]faulty{
		"a zero commit":                                {impl.Commit{}, form},
		"a wrong tree and all else":                    {impl.Commit{Tree: "b0007", Parents: four, Time: -1, Note: bad}, form},
		"too many parents and all behind":              {impl.Commit{Tree: "t0007", Parents: four, Time: -1, Note: bad}, many},
		"too many parents, all wrong":                  {impl.Commit{Tree: "t0007", Parents: make([]string, 4)}, many},
		"far too many parents":                         {impl.Commit{Tree: "t0007", Parents: make([]string, 100000)}, many},
		"a wrong parent and all behind":                {impl.Commit{Tree: "t0007", Parents: []string{"c0001", "x"}, Time: -1, Note: bad}, form},
		"a wrong parent, last":                         {impl.Commit{Tree: "t0007", Parents: []string{"c0001", "c0002", "t0003"}}, form},
		"one parent twice":                             {impl.Commit{Tree: "t0007", Parents: []string{"c0001", "c0001"}}, form},
		"one parent twice, one between":                {impl.Commit{Tree: "t0007", Parents: []string{"c0001", "c0002", "c0001"}}, form},
		"one parent twice, last":                       {impl.Commit{Tree: "t0007", Parents: []string{"c0001", "c0002", "c0002"}, Time: 1e9 + 1}, form},
		"a time ahead of all and a wrong note":         {impl.Commit{Tree: "t0007", Time: -1, Note: bad}, wrong},
		"a time behind all and a wrong note":           {impl.Commit{Tree: "t0007", Parents: []string{"c0001"}, Time: 1e9 + 1, Note: bad}, wrong},
		"a note of a line feed":                        {impl.Commit{Tree: "t0007", Note: bad}, text},
		"a note that is far too long":                  {impl.Commit{Tree: "t0007", Note: strings.Repeat("a", 100000)}, text},
		"a note that is too long, with a byte of none": {impl.Commit{Tree: "t0007", Note: strings.Repeat("\x00", 61)}, text},
	}
	for _, id := range slices.Concat(wrongIds, []string{"b0007", "c0007"}) {
		commits["tree "+strconv.Quote(id)] = faulty{impl.Commit{Tree: id}, form}
	}
	for _, id := range slices.Concat(wrongIds, []string{"b0007", "t0007"}) {
		commits["parent "+strconv.Quote(id)] = faulty{impl.Commit{Tree: "t0007", Parents: []string{"c0001", id}}, form}
	}
	return commits
}

func TestCommitsWithAFault(t *testing.T) {
	for name, f := range faultyCommits() {
		if got := checkCommit(t, name, f.c); got != f.code {
			t.Errorf("%.60s: %d, want %d", name, got, f.code)
		}
		if r := impl.EncodeCommit(f.c); r != (impl.TextResult{Code: f.code}) {
			t.Errorf("%.60s: EncodeCommit = %#v, want %d", name, r, f.code)
		}
	}
}

func TestDecodeCommitReadsOneFormOnly(t *testing.T) {
	read := 0
	for _, text := range []string{
		"tree t0007\ntime 5\nnote hi you\n", "tree t0007\ntime 0\nnote \n", "tree tffff\nparent c0001\ntime 1000000000\nnote a\n", "tree t0007\nparent c0001\nparent c0002\nparent c0003\ntime 10\nnote " + strings.Repeat("n", 60) + "\n",
	} {
		for _, data := range spoilt(text, spoilers) {
			got, want := impl.DecodeCommit(data), decodeCommitByForm(data)
			if !sameCommitResult(got, want) {
				t.Errorf("DecodeCommit(%q) = %#v, want %#v", data, got, want)
			}
			if want.Code == impl.OK {
				read++
			}
			if want.Code == impl.OK && impl.EncodeCommit(got.Commit) != (impl.TextResult{Text: data}) {
				t.Errorf("DecodeCommit(%q) reads another form", data)
			}
		}
	}
	if read < 500 {
		t.Errorf("of the texts only %d are read", read)
	}
}

func TestDecodeCommitOfEveryOrderOfLines(t *testing.T) {
	lines := []string{"tree t0007\n", "parent c0001\n", "parent c0002\n", "time 5\n", "note \n", "note a\n", "\n"}
	read := 0
	for _, parts := range listsOver(lines, 5) {
		data := strings.Join(parts, "")
		got, want := impl.DecodeCommit(data), decodeCommitByForm(data)
		if !sameCommitResult(got, want) {
			t.Errorf("DecodeCommit(%q) = %#v, want %#v", data, got, want)
		}
		if want.Code == impl.OK {
			read++
		}
	}
	if want := 2 * (1 + 2 + 2); read != want {
		t.Errorf("%d orders are read, want %d", read, want)
	}
}

func TestDecodeCommitRefuses(t *testing.T) {
	for name, data := range map[string]string{
		"nothing":                         "",
		"a line feed":                     "\n",
		"no note":                         "tree t0007\ntime 5\n",
		"a note with no blank":            "tree t0007\ntime 5\nnote\n",
		"a note with no line feed":        "tree t0007\ntime 5\nnote a",
		"an empty note with no line feed": "tree t0007\ntime 5\nnote ",
		"no time":                         "tree t0007\nnote a\n",
		"no tree":                         "time 5\nnote a\n",
		"no number":                       "tree t0007\ntime \nnote a\n",
		"no number and no blank":          "tree t0007\ntime\nnote a\n",
		"a 0 ahead":                       "tree t0007\ntime 05\nnote a\n",
		"a 0 ahead of 0":                  "tree t0007\ntime 00\nnote a\n",
		"a plus":                          "tree t0007\ntime +5\nnote a\n",
		"a minus":                         "tree t0007\ntime -5\nnote a\n",
		"a minus ahead of 0":              "tree t0007\ntime -0\nnote a\n",
		"a stroke in a number":            "tree t0007\ntime 1_0\nnote a\n",
		"a number of base 16":             "tree t0007\ntime 0x5\nnote a\n",
		"a number of letters":             "tree t0007\ntime five\nnote a\n",
		"a number with a point":           "tree t0007\ntime 5.0\nnote a\n",
		"a number that is too great":      "tree t0007\ntime 1000000001\nnote a\n",
		"a number of 64 bits":             "tree t0007\ntime 9223372036854775807\nnote a\n",
		"a number behind 64 bits":         "tree t0007\ntime 9223372036854775808\nnote a\n",
		"a number that wraps round":       "tree t0007\ntime 18446744073709551621\nnote a\n",
		"a blank behind the number":       "tree t0007\ntime 5 \nnote a\n",
		"two blanks ahead of the number":  "tree t0007\ntime  5\nnote a\n",
		"two blanks ahead of the tree":    "tree  t0007\ntime 5\nnote a\n",
		"a blank behind the tree":         "tree t0007 \ntime 5\nnote a\n",
		"a blank ahead":                   " tree t0007\ntime 5\nnote a\n",
		"a line feed ahead":               "\ntree t0007\ntime 5\nnote a\n",
		"a line feed behind":              "tree t0007\ntime 5\nnote a\n\n",
		"an empty line":                   "tree t0007\n\ntime 5\nnote a\n",
		"a line more":                     "tree t0007\ntime 5\nnote a\nnote b\n",
		"a line more, of an empty note":   "tree t0007\ntime 5\nnote a\nnote \n",
		"another line more":               "tree t0007\ntime 5\nnote a\nmore\n",
		"a line of another word":          "tree t0007\nauthor me\ntime 5\nnote a\n",
		"a word with nothing":             "tree t0007\nparent\ntime 5\nnote a\n",
		"a parent of nothing":             "tree t0007\nparent \ntime 5\nnote a\n",
		"two trees":                       "tree t0007\ntree t0007\ntime 5\nnote a\n",
		"two times":                       "tree t0007\ntime 5\ntime 5\nnote a\n",
		"time ahead of the tree":          "time 5\ntree t0007\nnote a\n",
		"note ahead of the time":          "tree t0007\nnote a\ntime 5\n",
		"a parent ahead of the tree":      "parent c0001\ntree t0007\ntime 5\nnote a\n",
		"a parent behind the time":        "tree t0007\ntime 5\nparent c0001\nnote a\n",
		"a parent behind the note":        "tree t0007\ntime 5\nnote a\nparent c0001\n",
		"one parent twice":                "tree t0007\nparent c0001\nparent c0001\ntime 5\nnote a\n",
		"one parent twice, one between":   "tree t0007\nparent c0001\nparent c0002\nparent c0001\ntime 5\nnote a\n",
		"four parents":                    "tree t0007\nparent c0001\nparent c0002\nparent c0003\nparent c0004\ntime 5\nnote a\n",
		"two parents in a line":           "tree t0007\nparent c0001 c0002\ntime 5\nnote a\n",
		"a parent that is a tree":         "tree t0007\nparent t0007\ntime 5\nnote a\n",
		"a tree that is a blob":           "tree b0007\ntime 5\nnote a\n",
		"other words":                     "Tree t0007\ntime 5\nnote a\n",
		"another word for the time":       "tree t0007\ntimes 5\nnote a\n",
		"another word for the note":       "tree t0007\ntime 5\nnotes a\n",
		"a note of 61 bytes":              "tree t0007\ntime 5\nnote " + strings.Repeat("a", 61) + "\n",
		"a note with a byte 31":           "tree t0007\ntime 5\nnote a\x1f\n",
		"a note with a byte 127":          "tree t0007\ntime 5\nnote a\x7f\n",
		"a note with a byte 255":          "tree t0007\ntime 5\nnote a\xff\n",
		"a carriage return":               "tree t0007\r\ntime 5\r\nnote a\r\n",
		"a tree's text":                   "file b03f6 a\n",
		"too many lines":                  "tree t0007\n" + strings.Repeat("parent c0001\n", maxLines) + "time 5\nnote a\n",
		"too long":                        "tree t0007\ntime 5\nnote " + strings.Repeat("a", maxText) + "\n",
		"far too long":                    strings.Repeat("tree t0007\ntime 5\nnote a\n", 10000),
	} {
		if r := impl.DecodeCommit(data); !sameCommitResult(r, impl.CommitResult{Code: impl.ErrText}) {
			t.Errorf("%s: DecodeCommit = %#v, want ErrText", name, r)
		}
		if r := decodeCommitByForm(data); r.Code != impl.ErrText {
			t.Errorf("%s: this is a commit", name)
		}
	}
}

// anyTrees: lists of entries of every kind, with and without faults.
func anyTrees() [][]impl.TreeEntry {
	lists := [][]impl.TreeEntry{nil, {}, {fileOf("a")}, entriesOf(maxLines, 8), entriesOf(7, 3), {fileOf("a"), {Name: "b", Mode: 3, Id: "t0007"}}}
	for _, name := range []string{"a zero entry", "one twice", "too many", "too long", "a wrong mode and a wrong id", "far too many"} {
		lists = append(lists, faultyTrees()[name].list)
	}
	return lists
}

// anyCommits: commits of every kind, with and without faults.
func anyCommits() []impl.Commit {
	commits := []impl.Commit{{Tree: "t0007"}, {Tree: "t0007", Parents: []string{"c0003", "c0001"}, Time: 9, Note: "hi"}, {Tree: "tffff", Parents: []string{"c0001", "c0002", "c0003"}, Time: 1e9, Note: strings.Repeat("a", 60)}}
	for _, name := range []string{"a zero commit", "too many parents and all behind", "one parent twice, one between", "a note of a line feed", "a time behind all and a wrong note"} {
		commits = append(commits, faultyCommits()[name].c)
	}
	return commits
}

// tellRecords: what all functions of chapter 6 answer to these arguments, in words.
func tellRecords(list []impl.TreeEntry, c impl.Commit, data string) string {
	return fmt.Sprintf("%d %d %#v %#v %d %#v %#v", impl.NameFault(data), impl.TreeFault(list), impl.EncodeTree(list), impl.DecodeTree(data), impl.CommitFault(c), impl.EncodeCommit(c), impl.DecodeCommit(data))
}

func anyRecordTexts() []string {
	texts := anyTexts()
	for _, list := range anyTrees()[:6] {
		texts = append(texts, treeTextByWords(list))
	}
	for _, c := range anyCommits() {
		texts = append(texts, commitTextByWords(c))
	}
	return texts
}

func TestPromise1RecordsHangOnTheArgumentsAlone(t *testing.T) {
	lists, commits, texts := anyTrees(), anyCommits(), anyRecordTexts()
	tell := func(i int) string {
		c := commits[(i*3+1)%len(commits)]
		c.Parents = slices.Clone(c.Parents)
		return tellRecords(slices.Clone(lists[i%len(lists)]), c, strings.Clone(texts[(i*5+2)%len(texts)]))
	}
	answers := make([]string, 240)
	for i := range answers {
		answers[i] = tell(i)
	}
	// Backwards each call stands behind other ones than before.
	for i := len(answers) - 1; i >= 0; i-- {
		if tell(i) != answers[i] {
			t.Errorf("round %d: another answer at the second call", i)
		}
	}
}

func TestPromise1RecordsChangeNoArgument(t *testing.T) {
	lists, commits := anyTrees(), anyCommits()
	behind := impl.TreeEntry{Name: "behind", Mode: 7, Id: "behind"}
	for i := range len(lists) * len(commits) {
		// What lies behind a list in its memory is not the function's either.
		list, c := append(slices.Clone(lists[i%len(lists)]), behind), commits[i/len(lists)]
		c.Parents = append(slices.Clone(c.Parents), "behind")
		keptList, keptParents := slices.Clone(list), slices.Clone(c.Parents)
		given := c
		given.Parents = c.Parents[:len(c.Parents)-1]
		tellRecords(list[:len(list)-1], given, "file b03f6 a\n")
		if !slices.Equal(list, keptList) || !slices.Equal(c.Parents, keptParents) {
			t.Errorf("round %d: a list was changed, or what lies behind it", i)
		}
	}
}

func TestPromise1RecordsAreNewMemory(t *testing.T) {
	wantNew := func(name string, given []string, texts ...string) {
		t.Helper()
		for i, text := range texts {
			for _, other := range slices.Concat(given, texts[:i]) {
				if sharesBytes(text, other) {
					t.Errorf("%s: %q has memory that is not new", name, text)
				}
			}
		}
	}
	for _, list := range anyTrees()[2:6] {
		var given []string
		for _, e := range list {
			given = append(given, e.Name, e.Id)
		}
		data := impl.EncodeTree(list).Text
		wantNew("EncodeTree", given, data)
		read, again := impl.DecodeTree(data), impl.DecodeTree(data)
		var texts []string
		for i, e := range read.Entries {
			texts = append(texts, e.Name, e.Id)
			read.Entries[i] = impl.TreeEntry{}
		}
		wantNew("DecodeTree", []string{data}, texts...)
		if !slices.Equal(again.Entries, list) {
			t.Error("two answers of DecodeTree share their list")
		}
	}
	for _, c := range anyCommits()[:3] {
		data := impl.EncodeCommit(c).Text
		wantNew("EncodeCommit", append(slices.Clone(c.Parents), c.Tree, c.Note), data)
		read, again := impl.DecodeCommit(data).Commit, impl.DecodeCommit(data).Commit
		wantNew("DecodeCommit", []string{data}, append(slices.Clone(read.Parents), read.Tree, read.Note)...)
		for i := range read.Parents {
			read.Parents[i] = "changed"
		}
		if !sameCommit(again, c) {
			t.Error("two answers of DecodeCommit share their list")
		}
	}
}
