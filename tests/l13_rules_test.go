package tests

import (
	"fmt"
	"maps"
	"math/rand"
	"slices"
	"strconv"
	"strings"
	"testing"

	"loop.example/g00172/impl"
)

const maxRules = 40
const maxPre = 8000

func TestNumberOfRules(t *testing.T) {
	if impl.MaxRules != maxRules {
		t.Errorf("MaxRules = %d", impl.MaxRules)
	}
}

// isTooLong: whether a text has a fault.
func isTooLong(text string) bool {
	lines := strings.Count(text, "\n")
	if text != "" && !strings.HasSuffix(text, "\n") {
		lines++
	}
	return len(text) > maxText || lines > maxLines
}

func normalByWords(base string, ours string, theirs string) impl.TextResult {
	var lists [3][]string
	for side, text := range []string{base, ours, theirs} {
		if isTooLong(text) {
			return impl.TextResult{Code: impl.ErrMany}
		}
		lists[side] = slices.DeleteFunc(strings.SplitAfter(text, "\n"), func(line string) bool { return line == "" })
	}
	text, clashes := "", 0
	for _, c := range chunksByWords(lists[0], lists[1], lists[2]) {
		base, ours, theirs := strings.Join(c.Base, ""), strings.Join(c.Ours, ""), strings.Join(c.Theirs, "")
		switch {
		case c.Kind == 2:
			text += fmt.Sprintf("= %d\n%s", len(theirs), theirs)
		case c.Kind != 4:
			text += fmt.Sprintf("= %d\n%s", len(ours), ours)
		case isAbove(theirs, ours):
			clashes++
			text += fmt.Sprintf("! %d %d %d\n%s%s%s", len(ours), len(base), len(theirs), ours, base, theirs)
		default:
			clashes++
			text += fmt.Sprintf("! %d %d %d\n%s%s%s", len(theirs), len(base), len(ours), theirs, base, ours)
		}
	}
	if clashes == 0 {
		return impl.TextResult{Code: impl.ErrNone}
	}
	return impl.TextResult{Text: text}
}

func rulesFaultByWords(rules []impl.Rule) int64 {
	if len(rules) > maxRules {
		return impl.ErrMany
	}
	ahead := ""
	for _, rule := range rules {
		// What is above another text is not empty.
		if len(rule.Pre) > maxPre || !isAbove(rule.Pre, ahead) {
			return impl.ErrForm
		}
		if isTooLong(rule.Post) {
			return impl.ErrMany
		}
		ahead = rule.Pre
	}
	return impl.OK
}

func heldRules(rules []impl.Rule) map[string]string {
	held := map[string]string{}
	for _, rule := range rules {
		held[rule.Pre] = rule.Post
	}
	return held
}

func rulesIn(held map[string]string) []impl.Rule {
	var rules []impl.Rule
	for _, pre := range slices.Sorted(maps.Keys(held)) {
		rules = append(rules, impl.Rule{Pre: pre, Post: held[pre]})
	}
	return rules
}

func learnByWords(rules []impl.Rule, pre string, post string) impl.RulesResult {
	if code := rulesFaultByWords(rules); code != impl.OK {
		return impl.RulesResult{Code: code}
	}
	if pre == "" || len(pre) > maxPre {
		return impl.RulesResult{Code: impl.ErrForm}
	}
	if isTooLong(post) {
		return impl.RulesResult{Code: impl.ErrMany}
	}
	held := heldRules(rules)
	held[pre] = post
	if len(held) > maxRules {
		return impl.RulesResult{Code: impl.ErrMany}
	}
	return impl.RulesResult{Rules: rulesIn(held)}
}

func forgetByWords(rules []impl.Rule, pre string) impl.RulesResult {
	if code := rulesFaultByWords(rules); code != impl.OK {
		return impl.RulesResult{Code: code}
	}
	held := heldRules(rules)
	if _, ok := held[pre]; !ok {
		return impl.RulesResult{Code: impl.ErrNone}
	}
	delete(held, pre)
	return impl.RulesResult{Rules: rulesIn(held)}
}

func findByWords(rules []impl.Rule, pre string) impl.TextResult {
	if code := rulesFaultByWords(rules); code != impl.OK {
		return impl.TextResult{Code: code}
	}
	post, ok := heldRules(rules)[pre]
	if !ok {
		return impl.TextResult{Code: impl.ErrNone}
	}
	return impl.TextResult{Text: post}
}

func preByWords(store []impl.Object, index []impl.Entry, path string) impl.TextResult {
	for _, code := range []int64{storeFaultByWords(store), indexFaultByWords(index)} {
		if code != impl.OK {
			return impl.TextResult{Code: code}
		}
	}
	ids := map[int64]string{}
	for _, entry := range index {
		if entry.Path == path {
			ids[entry.Stage] = entry.Id
		}
	}
	if ids[2] == "" || ids[3] == "" {
		return impl.TextResult{Code: impl.ErrNone}
	}
	texts := map[int64]string{}
	for stage, id := range ids {
		blob := getByWords(store, impl.KindBlob, id)
		if blob.Code != impl.OK {
			return impl.TextResult{Code: impl.ErrNone}
		}
		texts[stage] = blob.Object.Data
	}
	if strings.Contains(texts[1]+texts[2]+texts[3], "\x00") {
		return impl.TextResult{Code: impl.ErrForm}
	}
	return normalByWords(texts[1], texts[2], texts[3])
}

// oneModeByWords: the mode that both sides of a path have, 0 where there is none.
func oneModeByWords(index []impl.Entry, path string) int64 {
	ours, isOurs := byPaths(stageFilesByWords(index, 2).Files)[path]
	theirs, isTheirs := byPaths(stageFilesByWords(index, 3).Files)[path]
	if !isOurs || !isTheirs || ours.Mode != theirs.Mode {
		return 0
	}
	return ours.Mode
}

func replayByWords(store []impl.Object, index []impl.Entry, rules []impl.Rule) impl.ReplayResult {
	for _, code := range []int64{storeFaultByWords(store), indexFaultByWords(index), rulesFaultByWords(rules)} {
		if code != impl.OK {
			return impl.ReplayResult{Code: code}
		}
	}
	r := impl.ReplayResult{Store: store, Index: index}
	for _, path := range clashesByWords(index).Lines {
		pre, mode := preByWords(store, index, path), oneModeByWords(index, path)
		if pre.Code != impl.OK || mode == 0 {
			continue
		}
		post := findByWords(rules, pre.Text)
		if post.Code != impl.OK {
			continue
		}
		put := putByWords(r.Store, impl.KindBlob, post.Text)
		if put.Code != impl.OK {
			return impl.ReplayResult{Code: put.Code}
		}
		r.Store, r.Index = put.Store, resolveByWords(r.Index, path, mode, put.Id).Entries
		r.Done++
	}
	return r
}

func sameRulesResult(a impl.RulesResult, b impl.RulesResult) bool {
	return a.Code == b.Code && slices.Equal(a.Rules, b.Rules)
}

func sameReplayResult(a impl.ReplayResult, b impl.ReplayResult) bool {
	return a.Code == b.Code && a.Done == b.Done && slices.Equal(a.Store, b.Store) && slices.Equal(a.Index, b.Index)
}

// wantNormal asks promise 14 of three texts, and that what is told of them can be learned.
func wantNormal(t *testing.T, base string, ours string, theirs string) impl.TextResult {
	t.Helper()
	got, want := impl.NormalText(base, ours, theirs), normalByWords(base, ours, theirs)
	if got != want {
		t.Fatalf("NormalText(%.200q, %.200q, %.200q) = %.300s, want %.300s", base, ours, theirs, fmt.Sprintf("%#v", got), fmt.Sprintf("%#v", want))
	}
	if turned := impl.NormalText(base, theirs, ours); turned != got {
		t.Fatalf("NormalText(%.200q, %.200q, %.200q) = %#v, turned round %#v", base, ours, theirs, got, turned)
	}
	if got.Code == impl.OK {
		if r := impl.LearnRule(nil, got.Text, "post"); !sameRulesResult(r, impl.RulesResult{Rules: []impl.Rule{{Pre: got.Text, Post: "post"}}}) {
			t.Fatalf("NormalText(%.200q, %.200q, %.200q) = %#v is not learned: %d", base, ours, theirs, got, r.Code)
		}
	}
	return got
}

func wantLearned(t *testing.T, name string, rules []impl.Rule, pre string, post string) impl.RulesResult {
	t.Helper()
	got, want := impl.LearnRule(rules, pre, post), learnByWords(rules, pre, post)
	if !sameRulesResult(got, want) {
		t.Errorf("%s: LearnRule %.40q, %.40q = %.200s, want %.200s", name, pre, post, fmt.Sprintf("%#v", got), fmt.Sprintf("%#v", want))
	}
	if got.Code != impl.OK {
		return got
	}
	if code := impl.RulesFault(got.Rules); code != impl.OK {
		t.Errorf("%s: what is learned has the fault %d", name, code)
	}
	if r := impl.FindRule(got.Rules, pre); r != (impl.TextResult{Text: post}) {
		t.Errorf("%s: what is learned is %+v, want %q", name, r, post)
	}
	without := slices.DeleteFunc(slices.Clone(rules), func(rule impl.Rule) bool { return rule.Pre == pre })
	if r := impl.ForgetRule(got.Rules, pre); !sameRulesResult(r, impl.RulesResult{Rules: without}) {
		t.Errorf("%s: forgotten again it is %+v, want %+v", name, r, without)
	}
	return got
}

// wantRules asks every function of rules alone at these, and answers their fault.
func wantRules(t *testing.T, name string, rules []impl.Rule, pres ...string) int64 {
	t.Helper()
	code := impl.RulesFault(rules)
	if want := rulesFaultByWords(rules); code != want {
		t.Errorf("%s: RulesFault = %d, want %d", name, code, want)
	}
	for _, pre := range pres {
		wantLearned(t, name, rules, pre, "post of "+strconv.Itoa(len(pre)))
		if got, want := impl.ForgetRule(rules, pre), forgetByWords(rules, pre); !sameRulesResult(got, want) {
			t.Errorf("%s: ForgetRule %.40q = %+v, want %+v", name, pre, got, want)
		}
		if got, want := impl.FindRule(rules, pre), findByWords(rules, pre); got != want {
			t.Errorf("%s: FindRule %.40q = %+v, want %+v", name, pre, got, want)
		}
	}
	return code
}

func wantPre(t *testing.T, name string, store []impl.Object, index []impl.Entry, path string) impl.TextResult {
	t.Helper()
	got, want := impl.PreOf(store, index, path), preByWords(store, index, path)
	if got != want {
		t.Errorf("%s: PreOf %.40q = %+v, want %+v", name, path, got, want)
	}
	if turned := impl.SwapStages(index); turned.Code == impl.OK {
		if r := impl.PreOf(store, turned.Entries, path); r != got {
			t.Errorf("%s: PreOf %.40q = %+v, turned round %+v", name, path, got, r)
		}
	}
	return got
}

// wantReplayed asks promise 14 too: in either order of the sides the same is settled, and no other path.
func wantReplayed(t *testing.T, name string, store []impl.Object, index []impl.Entry, rules []impl.Rule) impl.ReplayResult {
	t.Helper()
	got, want := impl.ReplayRules(store, index, rules), replayByWords(store, index, rules)
	if !sameReplayResult(got, want) {
		t.Errorf("%s: ReplayRules = %.300s, want %.300s", name, fmt.Sprintf("%+v", got), fmt.Sprintf("%+v", want))
	}
	if got.Code != impl.OK {
		return got
	}
	wantKept(t, name, store, got.Store)
	turned := impl.ReplayRules(store, impl.SwapStages(index).Entries, rules)
	turned.Index = impl.SwapStages(turned.Index).Entries
	if !sameReplayResult(turned, got) {
		t.Errorf("%s: turned round it is %+v, want %+v", name, turned, got)
	}
	wantSettledByRules(t, name, store, index, rules, got)
	return got
}

// wantSettledByRules goes over the paths, and looks at each of them alone.
func wantSettledByRules(t *testing.T, name string, store []impl.Object, index []impl.Entry, rules []impl.Rule, r impl.ReplayResult) {
	t.Helper()
	if code := impl.IndexFault(r.Index); code != impl.OK {
		t.Errorf("%s: the index has the fault %d", name, code)
	}
	at := func(index []impl.Entry, path string) []impl.Entry {
		return slices.DeleteFunc(slices.Clone(index), func(entry impl.Entry) bool { return entry.Path != path })
	}
	done := int64(0)
	for _, entry := range slices.CompactFunc(slices.Clone(index), func(a impl.Entry, b impl.Entry) bool { return a.Path == b.Path }) {
		before, after := at(index, entry.Path), at(r.Index, entry.Path)
		if slices.Equal(before, after) {
			continue
		}
		done++
		post := impl.FindRule(rules, impl.PreOf(store, index, entry.Path).Text)
		mode := oneModeByWords(index, entry.Path)
		if post.Code != impl.OK || mode == 0 || len(after) != 1 || after[0] != (impl.Entry{Path: entry.Path, Mode: mode, Id: objectOf(impl.KindBlob, post.Text).Id}) {
			t.Errorf("%s, %s: it was %+v and is %+v, the rule's text is %+v", name, entry.Path, before, after, post)
		}
	}
	if done != r.Done || len(impl.ClashesIn(index).Lines)-len(impl.ClashesIn(r.Index).Lines) != int(done) {
		t.Errorf("%s: %d are settled, Done is %d", name, done, r.Done)
	}
}

func TestNormalText(t *testing.T) {
	for _, c := range []struct {
		name, base, ours, theirs, want string
	}{
		{"the lesser one is theirs", "o|", "b|", "a|", "! 2 2 2|a|o|b|"},
		{"the lesser one is ours", "o|", "a|", "b|", "! 2 2 2|a|o|b|"},
		{"the base is the least", "a|", "c|", "b|", "! 2 2 2|b|a|c|"},
		{"the base is the greatest", "z|", "b|", "c|", "! 2 2 2|b|z|c|"},
		{"no base", "", "b|", "a|", "! 2 0 2|a|b|"},
		{"ours is empty", "o|", "", "a|", "! 0 2 2|o|a|"},
		{"theirs is empty", "o|", "a|", "", "! 0 2 2|o|a|"},
		{"one begins the other, by a line", "o|", "a|b|", "a|", "! 2 2 4|a|o|a|b|"},
		{"one begins the other, by bytes", "o|", "ab", "a", "! 1 2 2|ao|ab"},
		{"one begins the other but for its line feed", "o|", "a|", "ab|", "! 2 2 3|a|o|ab|"},
		{"one begins the other, without a line feed", "o|", "a|", "a", "! 1 2 2|ao|a|"},
		{"the shorter one is the greater one", "o|", "b|", "aaaa|", "! 5 2 2|aaaa|o|b|"},
		{"the first bytes are alike", "o|", "abd|", "abc|", "! 4 2 4|abc|o|abd|"},
		{"the lesser one by a later line", "o|", "k|b|", "k|a|", "! 4 2 4|k|a|o|k|b|"},
		{"a line feed is below a blank", "o|", "a b|", "a|b|", "! 4 2 4|a|b|o|a b|"},
		{"bytes above 127", "o|", "\x80|", "\x7f|", "! 2 2 2|\x7f|o|\x80|"},
		{"bytes at the end of all", "o|", "\xff|", "a|", "! 2 2 2|a|o|\xff|"},
		{"bytes above 127 on both sides", "o|", "\xfe|", "\xff|", "! 2 2 2|\xfe|o|\xff|"},
		{"bytes that are no text", "\xc3|", "\xc3\x28|", "\xa0|", "! 2 2 3|\xa0|\xc3|\xc3\x28|"},
		{"bytes are counted, not signs", "o|", "\u00e9|", "\u20ac|", "! 3 2 4|\u00e9|o|\u20ac|"},
		{"a byte 0", "o|", "\x00|", "a|", "! 2 2 2|\x00|o|a|"},
		{"no line feed in the base", "o", "b|", "a|", "! 2 1 2|a|ob|"},
		{"no line feed in ours", "o|", "b", "a|", "! 2 2 1|a|o|b"},
		{"no line feed at all", "o", "b", "a", "! 1 1 1|aob"},
		{"a clash at the beginning", "a|k|", "b|k|", "c|k|", "! 2 2 2|b|a|c|= 2|k|"},
		{"a clash at the end", "k|a|", "k|b|", "k|c|", "= 2|k|! 2 2 2|b|a|c|"},
		{"a clash of lines that came", "k|l|", "k|b|l|", "k|a|l|", "= 2|k|! 2 0 2|a|b|= 2|l|"},
		{"several clashes, the lesser side another one", "o|k|o|k|o|", "a|k|d|k|e|", "b|k|c|k|f|", "! 2 2 2|a|o|b|= 2|k|! 2 2 2|c|o|d|= 2|k|! 2 2 2|e|o|f|"},
		{"a chunk of ours", "1|k|o|", "x|k|a|", "1|k|b|", "= 2|x|= 2|k|! 2 2 2|a|o|b|"},
		{"a chunk of theirs", "1|k|o|", "1|k|a|", "xy|k|b|", "= 3|xy|= 2|k|! 2 2 2|a|o|b|"},
		{"a chunk of both", "1|k|o|", "x|k|a|", "x|k|b|", "= 2|x|= 2|k|! 2 2 2|a|o|b|"},
		{"gone in ours", "1|k|o|", "k|a|", "1|k|b|", "= 0|= 2|k|! 2 2 2|a|o|b|"},
		{"gone in theirs", "1|k|o|", "1|k|a|", "k|b|", "= 0|= 2|k|! 2 2 2|a|o|b|"},
		{"gone in both", "1|k|o|", "k|a|", "k|b|", "= 0|= 2|k|! 2 2 2|a|o|b|"},
		{"come in ours", "k|o|", "x|k|a|", "k|b|", "= 2|x|= 2|k|! 2 2 2|a|o|b|"},
		{"come in theirs", "k|o|", "k|a|", "x|k|b|", "= 2|x|= 2|k|! 2 2 2|a|o|b|"},
		{"the last line of ours alone has no line feed", "o|k|l|", "a|k|l", "b|k|l|", "! 2 2 2|a|o|b|= 2|k|= 1|l"},
		{"the last line of theirs alone has no line feed", "o|k|l|", "a|k|l|", "b|k|l", "! 2 2 2|a|o|b|= 2|k|= 1|l"},
		{"the last line has no line feed", "o|k", "a|k", "b|k", "! 2 2 2|a|o|b|= 1|k"},
		{"lines that look like those ahead of texts", "! 1 1 1|", "= 5|", "= 50|", "! 4 8 5|= 5|! 1 1 1|= 50|"},
		{"ten bytes", "o|", "aaaaaaaaa|", "b|", "! 10 2 2|aaaaaaaaa|o|b|"},
		{"lines that are empty", "|", "||", "|||", "= 1||! 1 0 2||||"},
	} {
		want := barred(c.want)
		if r := wantNormal(t, barred(c.base), barred(c.ours), barred(c.theirs)); r != (impl.TextResult{Text: want}) {
			t.Errorf("%s: %+v, want %q", c.name, r, want)
		}
	}
}

func TestNormalTextOfNoClash(t *testing.T) {
	for _, c := range [][3]string{
		{"", "", ""}, {"a|", "a|", "a|"}, {"a|", "b|", "a|"}, {"a|", "a|", "b|"}, {"a|", "b|", "b|"}, {"", "a|", ""}, {"", "", "a|"}, {"", "a|", "a|"}, {"a|", "", ""}, {"a|", "", "a|"},
		{"1|2|3|", "0|2|3|", "1|2|4|"}, {"a", "a|", "a|"}, {"a|b", "a|b|", "a|b"}, {"a\x00", "a\x00", "b"},
	} {
		if r := wantNormal(t, barred(c[0]), barred(c[1]), barred(c[2])); r != (impl.TextResult{Code: impl.ErrNone}) {
			t.Errorf("%q: %+v", c, r)
		}
	}
}

func TestNormalTextTellsItsCodes(t *testing.T) {
	for name, wrong := range map[string]string{
		"too many lines":                       strings.Repeat("\n", maxLines+1),
		"too many lines, the last one unended": strings.Repeat("\n", maxLines) + "a",
		"too many bytes":                       strings.Repeat("a", maxText+1),
		"far too many":                         strings.Repeat("a\n\x00", 100000),
	} {
		for _, good := range []string{"", "a\nb", "b\n", wrong} {
			for _, other := range []string{"", "c\n", good} {
				for i, r := range []impl.TextResult{wantNormal(t, wrong, good, other), wantNormal(t, good, wrong, other), wantNormal(t, good, other, wrong)} {
					if r != (impl.TextResult{Code: impl.ErrMany}) {
						t.Errorf("%s on side %d: %#v", name, i, r)
					}
				}
			}
		}
	}
}

func TestNormalTextAtItsBounds(t *testing.T) {
	full := func(letter string) string { return strings.Repeat(letter, maxText) }
	r := wantNormal(t, full("o"), full("b"), full("a"))
	if r.Text != "! 2000 2000 2000\n"+full("a")+full("o")+full("b") {
		t.Errorf("as many bytes as may be: %d, %d bytes", r.Code, len(r.Text))
	}
	lines := func(letter string) string { return strings.Repeat(letter+"\n", maxLines) }
	if r := wantNormal(t, lines("o"), lines("b"), lines("a")); r.Text != "! 200 200 200\n"+lines("a")+lines("o")+lines("b") {
		t.Errorf("as many lines as may be: %+v", r)
	}
	// As many chunks as may be, of lines as long as may be, every second one a clash, or two of three settled.
	for _, width := range []int{1, 15, 19} {
		var texts [3]string
		for i := range maxLines / 2 {
			kept := fmt.Sprintf("%0*d\n", min(width, 3), i)
			for side, letter := range []string{"o", "a", "b"} {
				texts[side] += strings.Repeat(letter, width) + "\n" + kept
			}
		}
		if r := wantNormal(t, texts[0], texts[1], texts[2]); r.Code != impl.OK || strings.Count(r.Text, "! ") != maxLines/2 || len(r.Text) > maxPre {
			t.Errorf("width %d: %d, %d bytes", width, r.Code, len(r.Text))
		}
	}
	_, lists := mergeLines(maxLines / 2)
	texts := [3]string{}
	for side, lines := range lists {
		texts[side] = strings.Join(lines, "")
	}
	if r := wantNormal(t, texts[0], texts[1], texts[2]); r.Code != impl.ErrNone {
		t.Errorf("chunks of every kind but a clash: %+v", r)
	}
	if r := wantNormal(t, texts[0]+"o\n", texts[1]+"a\n", texts[2]+"b\n"); r.Code != impl.OK || strings.Count(r.Text, "!") != 1 {
		t.Errorf("chunks of every kind: %+v", r)
	}
}

func TestPromise14EveryThreeSmallTexts(t *testing.T) {
	for _, lists := range [][][]string{smallTexts([]string{"a", "b"}, 3), smallTexts([]string{"a", "\x80", "ab"}, 2)} {
		codes := map[int64]int{}
		for _, base := range lists {
			for _, ours := range lists {
				for _, theirs := range lists {
					codes[wantNormal(t, strings.Join(base, ""), strings.Join(ours, ""), strings.Join(theirs, "")).Code]++
				}
			}
		}
		if codes[impl.OK] < 1000 || codes[impl.ErrNone] < 1000 {
			t.Errorf("the texts do not reach all: %v", codes)
		}
	}
}

func TestPromise14LongTexts(t *testing.T) {
	random := rand.New(rand.NewSource(40))
	met := map[string]int{}
	for round := range 400 {
		base := randomLines(random, 1+round%26, random.Intn(maxLines+1))
		if round%3 == 0 {
			base = numbered(1, random.Intn(maxLines+1))
		}
		r := wantNormal(t, strings.Join(base, ""), strings.Join(edited(random, base, random.Intn(20)), ""), strings.Join(edited(random, base, random.Intn(20)), ""))
		met[fmt.Sprintf("code %d", r.Code)]++
		met[fmt.Sprintf("clashes %d", min(strings.Count(r.Text, "! "), 3))]++
	}
	wantMet(t, met, 20, "code 0", "code 4", "clashes 1", "clashes 2", "clashes 3")
}

// ruled: rules told as their texts, each with an equals sign and what comes of it behind it.
func ruled(told string) []impl.Rule {
	var rules []impl.Rule
	for _, word := range strings.Fields(told) {
		pre, post, _ := strings.Cut(word, "=")
		rules = append(rules, impl.Rule{Pre: barred(pre), Post: barred(post)})
	}
	return rules
}

// fullRules: so many rules without a fault.
func fullRules(count int) []impl.Rule {
	var rules []impl.Rule
	for i := range count {
		rules = append(rules, impl.Rule{Pre: fmt.Sprintf("p%03d", 2*i), Post: fmt.Sprintf("text %d\n", i)})
	}
	return rules
}

// faultyRules: rules with the code of each.
func faultyRules() map[string]struct {
	rules []impl.Rule
	code  int64
} {
	type faulty = struct {
		rules []impl.Rule
		code  int64
	}
	form, many := int64(impl.ErrForm), int64(impl.ErrMany)
	long, lines := strings.Repeat("a", maxText+1), strings.Repeat("\n", maxLines+1)
	longest := strings.Repeat("q", maxPre)
	lists := map[string]faulty{
		"a zero rule":                             {make([]impl.Rule, 1), form},
		"an empty pre":                            {[]impl.Rule{{Post: "x"}}, form},
		"an empty pre behind another":             {ruled("a=x =y"), form},
		"an empty pre, and a post too long":       {[]impl.Rule{{Post: long}}, form},
		"a pre too long":                          {[]impl.Rule{{Pre: longest + "q"}}, form},
		"a pre too long behind another":           {[]impl.Rule{{Pre: "a"}, {Pre: longest + "q"}}, form},
		"a pre too long, and a post too long":     {[]impl.Rule{{Pre: longest + "q", Post: long}}, form},
		"a pre far too long":                      {[]impl.Rule{{Pre: strings.Repeat("q", 1000000)}}, form},
		"one twice":                               {ruled("a=x a=x"), form},
		"one pre twice":                           {ruled("a=x a=y"), form},
		"one pre twice behind others":             {ruled("a=x b=y b=z"), form},
		"not rising":                              {ruled("b=x a=y"), form},
		"not rising behind others":                {ruled("a=x c=y b=z"), form},
		"not rising, the beginning behind":        {ruled("ab=x a=y"), form},
		"not rising, bytes above 127":             {ruled("\x80=x a=y"), form},
		"not rising, the longer one is lesser":    {ruled("b=x aaaa=y"), form},
		"one that comes back":                     {ruled("a=x b=y a=z"), form},
		"not rising, and a post too long":         {[]impl.Rule{{Pre: "b"}, {Pre: "a", Post: long}}, form},
		"a post too long":                         {[]impl.Rule{{Pre: "a", Post: long}}, many},
		"a post of too many lines":                {[]impl.Rule{{Pre: "a", Post: lines}}, many},
		"a post too long behind others":           {[]impl.Rule{{Pre: "a"}, {Pre: "b"}, {Pre: "c", Post: long}}, many},
		"a post too long ahead of an empty pre":   {[]impl.Rule{{Pre: "a", Post: long}, {}}, many},
		"a post too long ahead of one not rising": {[]impl.Rule{{Pre: "b", Post: lines}, {Pre: "a"}}, many},
		"an empty pre ahead of a post too long":   {[]impl.Rule{{}, {Pre: "a", Post: long}}, form},
		"not rising ahead of a post too long":     {[]impl.Rule{{Pre: "b"}, {Pre: "a"}, {Pre: "c", Post: long}}, form},
		"too many":                                {fullRules(maxRules + 1), many},
		"too many, all wrong":                     {make([]impl.Rule, maxRules+1), many},
		"far too many":                            {make([]impl.Rule, 100000), many},
		"as many as may be, the first wrong":      {append([]impl.Rule{{}}, fullRules(maxRules-1)...), form},
		"as many as may be, the last wrong":       {append(fullRules(maxRules-1), impl.Rule{Pre: "a"}), form},
		"as many as may be, the last post wrong":  {append(fullRules(maxRules-1), impl.Rule{Pre: "z", Post: long}), many},
	}
	return lists
}

func TestRulesFault(t *testing.T) {
	longest, lines := strings.Repeat("q", maxPre), strings.Repeat("\n", maxLines)
	for name, rules := range map[string][]impl.Rule{
		"nil":                       nil,
		"none":                      {},
		"one":                       ruled("a=x"),
		"an empty post":             ruled("a="),
		"several":                   ruled("a=x a|=x ab=y b="),
		"one that begins the next":  ruled("a= aa= aaa="),
		"bytes above 127":           ruled("a= \x7f= \x80= \xff="),
		"a pre of a byte 0":         {{Pre: "\x00"}, {Pre: "\x00\x00"}},
		"as long as may be":         {{Pre: longest[1:], Post: "x"}, {Pre: longest, Post: strings.Repeat("y", maxText)}},
		"as many lines as may be":   {{Pre: "a", Post: lines}, {Pre: "b", Post: lines[1:] + "x"}},
		"as many as may be":         fullRules(maxRules),
		"a pre of many lines":       {{Pre: strings.Repeat("\n", maxPre)}},
		"a binary post":             {{Pre: "a", Post: "\x00"}},
		"a pre of a line feed":      ruled("|=x zz=y"),
		"a pre as NormalText tells": {{Pre: "! 2 2 2\na\no\nb\n", Post: "ab\n"}},
	} {
		if code := wantRules(t, name, rules, "", "a", "b", "ab", "z", longest, longest+"q", "p000", "p001", "\x80"); code != impl.OK {
			t.Errorf("%s: %d", name, code)
		}
	}
}

func TestRulesWithAFault(t *testing.T) {
	long, longest := strings.Repeat("a", maxText+1), strings.Repeat("q", maxPre)
	for name, c := range faultyRules() {
		if code := wantRules(t, name, c.rules, "", "a", "b", "new", longest+"q"); code != c.code {
			t.Errorf("%s: RulesFault = %d, want %d", name, code, c.code)
		}
		// The fault is told ahead of all that is wrong beside it.
		for _, pre := range []string{"", "a", "b", "none", longest + "q"} {
			for _, post := range []string{"", long} {
				if r := impl.LearnRule(c.rules, pre, post); r.Code != c.code || r.Rules != nil {
					t.Errorf("%s: LearnRule %.40q = %+v", name, pre, r)
				}
			}
			if r := impl.ForgetRule(c.rules, pre); r.Code != c.code || r.Rules != nil {
				t.Errorf("%s: ForgetRule %.40q = %+v", name, pre, r)
			}
			if r := impl.FindRule(c.rules, pre); r != (impl.TextResult{Code: c.code}) {
				t.Errorf("%s: FindRule %.40q = %+v", name, pre, r)
			}
		}
	}
}

func TestLearnRule(t *testing.T) {
	for _, c := range []struct {
		rules, pre, post, want string
	}{
		{"", "a", "x", "a=x"}, {"", "a", "", "a="},
		{"b=x d=y", "a", "z", "a=z b=x d=y"}, {"b=x d=y", "c", "z", "b=x c=z d=y"}, {"b=x d=y", "e", "z", "b=x d=y e=z"},
		{"b=x d=y", "b", "z", "b=z d=y"}, {"b=x d=y", "d", "z", "b=x d=z"}, {"b=x d=y", "d", "", "b=x d="}, {"b=x d=y", "d", "y", "b=x d=y"},
		{"a=x aab=y", "aa", "z", "a=x aa=z aab=y"}, {"ab=x", "a", "z", "a=z ab=x"}, {"a=x", "ab", "z", "a=x ab=z"}, {"a=x", "a|", "z", "a=x a|=z"},
		{"a=x z=y", "\x80", "z", "a=x z=y \x80=z"}, {"\x80=x \xff=y", "z", "z", "z=z \x80=x \xff=y"}, {"b=x", "aaaa", "z", "aaaa=z b=x"},
	} {
		r := wantLearned(t, c.rules, ruled(c.rules), barred(c.pre), c.post)
		if !sameRulesResult(r, impl.RulesResult{Rules: ruled(c.want)}) {
			t.Errorf("%q, %q, %q: %+v, want %q", c.rules, c.pre, c.post, r, c.want)
		}
	}
}

func TestLearnRuleTellsItsCodes(t *testing.T) {
	full, near := fullRules(maxRules), fullRules(maxRules-1)
	longest, long, lines := strings.Repeat("q", maxPre), strings.Repeat("a", maxText+1), strings.Repeat("\n", maxLines)
	form, many := int64(impl.ErrForm), int64(impl.ErrMany)
	for _, c := range []struct {
		name      string
		rules     []impl.Rule
		pre, post string
		code      int64
		count     int
	}{
		{"an empty pre", nil, "", "x", form, 0},
		{"an empty pre, and a post too long", nil, "", long, form, 0},
		{"an empty pre, and full", full, "", "x", form, 0},
		{"a pre too long", nil, longest + "q", "x", form, 0},
		{"a pre too long, and a post too long", nil, longest + "q", long, form, 0},
		{"a pre too long, and full", full, longest + "q", "x", form, 0},
		{"a pre far too long", nil, strings.Repeat("q", 1000000), "x", form, 0},
		{"a pre as long as may be", nil, longest, "x", impl.OK, 1},
		{"a post too long", nil, "a", long, many, 0},
		{"a post of too many lines", nil, "a", lines + "x", many, 0},
		{"a post too long, of a pre that is there", ruled("a=x"), "a", long, many, 0},
		{"a post as long as may be", nil, "a", long[1:], impl.OK, 1},
		{"a post of as many lines as may be", nil, "a", lines, impl.OK, 1},
		{"the last that may be, ahead of all", near, "a", "x", impl.OK, maxRules},
		{"the last that may be, between", near, "p001", "x", impl.OK, maxRules},
		{"the last that may be, behind all", near, "z", "x", impl.OK, maxRules},
		{"one too many, ahead of all", full, "a", "x", many, 0},
		{"one too many, between", full, "p001", "x", many, 0},
		{"one too many, behind all", full, "z", "x", many, 0},
		{"full, the first is there", full, "p000", "x", impl.OK, maxRules},
		{"full, one is there", full, "p040", "x", impl.OK, maxRules},
		{"full, the last is there", full, "p078", "x", impl.OK, maxRules},
		{"full, one is there, and a post too long", full, "p040", long, many, 0},
	} {
		r := wantLearned(t, c.name, c.rules, c.pre, c.post)
		if r.Code != c.code || len(r.Rules) != c.count {
			t.Errorf("%s: %d, %d rules, want %d, %d", c.name, r.Code, len(r.Rules), c.code, c.count)
		}
	}
}

func TestRulesOfEveryFew(t *testing.T) {
	pres := []string{"", "a", "ab", "b", "\x80", strings.Repeat("q", maxPre+1)}
	codes := map[int64]int{}
	for i, list := range listsOver(pres, 4) {
		var rules []impl.Rule
		for j, pre := range list {
			rules = append(rules, impl.Rule{Pre: pre, Post: []string{"x", "y", "", "z\n"}[(i+j)%4]})
		}
		if i%5 == 4 && len(rules) > 0 {
			rules[i%len(rules)].Post = strings.Repeat("a", maxText+1)
		}
		codes[wantRules(t, fmt.Sprintf("%.60q", list), rules, append(pres, "aa", "c")...)]++
	}
	if codes[impl.OK] < 10 || codes[impl.ErrForm] < 100 || codes[impl.ErrMany] < 10 {
		t.Errorf("the lists do not reach all: %v", codes)
	}
}

func TestForgetAndFindRule(t *testing.T) {
	rules := ruled("a=x ab=y| b= \x80=z")
	for _, c := range []struct {
		pre, post, others string
	}{
		{"a", "x", "ab=y| b= \x80=z"}, {"ab", "y|", "a=x b= \x80=z"}, {"b", "", "a=x ab=y| \x80=z"}, {"\x80", "z", "a=x ab=y| b="},
	} {
		if r := impl.FindRule(rules, c.pre); r != (impl.TextResult{Text: barred(c.post)}) {
			t.Errorf("FindRule %q = %+v", c.pre, r)
		}
		if r := impl.ForgetRule(rules, c.pre); !sameRulesResult(r, impl.RulesResult{Rules: ruled(c.others)}) {
			t.Errorf("ForgetRule %q = %+v", c.pre, r)
		}
	}
	for _, list := range [][]impl.Rule{nil, {}, rules, fullRules(maxRules)} {
		for _, pre := range []string{"", "aa", "abc", "A", "a ", "x", "y\n", "\x00", "p001", strings.Repeat("a", maxPre+1)} {
			if r := impl.FindRule(list, pre); r != (impl.TextResult{Code: impl.ErrNone}) {
				t.Errorf("FindRule %.40q = %+v", pre, r)
			}
			if r := impl.ForgetRule(list, pre); r.Code != impl.ErrNone || r.Rules != nil {
				t.Errorf("ForgetRule %.40q = %+v", pre, r)
			}
		}
	}
	if r := impl.ForgetRule(ruled("a=x"), "a"); r.Code != impl.OK || len(r.Rules) != 0 {
		t.Errorf("the only one: %+v", r)
	}
	// One behind the other, until there is none.
	left := fullRules(maxRules)
	for i := range maxRules {
		pre := fmt.Sprintf("p%03d", 2*(i*7%maxRules))
		r := impl.ForgetRule(left, pre)
		if r.Code != impl.OK || len(r.Rules) != len(left)-1 || impl.FindRule(r.Rules, pre).Code != impl.ErrNone {
			t.Errorf("%s: %+v", pre, r)
		}
		left = r.Rules
	}
}

// clashing: an index of paths, each with an equals sign and the texts of the base, of ours and of theirs behind it, commas between, a minus where there is none; one text alone is settled, and a star ahead of a text stands for a file to be run. And the blobs of all of them.
func clashing(told string) ([]impl.Entry, []impl.Object) {
	var index []impl.Entry
	var blobs []impl.Object
	for _, word := range strings.Fields(told) {
		path, texts, _ := strings.Cut(word, "=")
		parts := strings.Split(texts, ",")
		for i, part := range parts {
			if part == "-" {
				continue
			}
			text, isRun := strings.CutPrefix(part, "*")
			blob := objectOf(impl.KindBlob, barred(text))
			entry := impl.Entry{Path: path, Stage: int64(i + 1), Mode: impl.ModeFile, Id: blob.Id}
			if isRun {
				entry.Mode = impl.ModeRun
			}
			if len(parts) == 1 {
				entry.Stage = 0
			}
			index, blobs = append(index, entry), append(blobs, blob)
		}
	}
	return index, soundStore(blobs...)
}

// learnt: rules told as the texts of the base, of ours and of theirs, commas between, an equals sign, and how they were settled.
func learnt(told string) []impl.Rule {
	held := map[string]string{}
	for _, word := range strings.Fields(told) {
		texts, post, _ := strings.Cut(barred(word), "=")
		parts := strings.Split(texts, ",")
		pre := normalByWords(parts[0], parts[1], parts[2])
		if pre.Code != impl.OK {
			panic(word)
		}
		held[pre.Text] = post
	}
	return rulesIn(held)
}

func TestPreOf(t *testing.T) {
	for _, c := range []struct {
		name, told string
		want       string
		code       int64
	}{
		{"all three", "x=o|,a|,b|", "! 2 2 2|a|o|b|", impl.OK},
		{"the sides turned round", "x=o|,b|,a|", "! 2 2 2|a|o|b|", impl.OK},
		{"no base", "x=-,b|,a|", "! 2 0 2|a|b|", impl.OK},
		{"an empty base", "x=,b|,a|", "! 2 0 2|a|b|", impl.OK},
		{"ours is empty", "x=o|,,a|", "! 0 2 2|o|a|", impl.OK},
		{"two modes", "x=o|,*b|,a|", "! 2 2 2|a|o|b|", impl.OK},
		{"to be run", "x=*o|,*b|,*a|", "! 2 2 2|a|o|b|", impl.OK},
		{"other paths beside it", "w=o|,p|,q| x=o|,b|,a| y=s|", "! 2 2 2|a|o|b|", impl.OK},
		{"a path that begins it, and one that it begins", "w/x=1|,2|,3| x=o|,b|,a| x/x=4|,5|,6|", "! 2 2 2|a|o|b|", impl.OK},
		{"some of it settled", "x=1|k|o|,0|k|b|,1|k|a|", "= 2|0|= 2|k|! 2 2 2|a|o|b|", impl.OK},
		{"nothing clashes, ours alone", "x=o|,a|,o|", "", impl.ErrNone},
		{"nothing clashes, theirs alone", "x=o|,o|,a|", "", impl.ErrNone},
		{"nothing clashes, both the same", "x=o|,a|,a|", "", impl.ErrNone},
		{"nothing clashes, no base", "x=-,a|,a|", "", impl.ErrNone},
		{"nothing clashes, each its own", "x=1|2|3|,0|2|3|,1|2|4|", "", impl.ErrNone},
		{"nothing clashes, all is empty", "x=,,", "", impl.ErrNone},
		{"nothing clashes, two modes", "x=o|,a|,*a|", "", impl.ErrNone},
		{"the base and ours", "x=o|,a|,-", "", impl.ErrNone},
		{"the base and theirs", "x=o|,-,a|", "", impl.ErrNone},
		{"the base alone", "x=o|,-,-", "", impl.ErrNone},
		{"ours alone", "x=-,a|,-", "", impl.ErrNone},
		{"theirs alone", "x=-,-,a|", "", impl.ErrNone},
		{"settled", "x=a|", "", impl.ErrNone},
		{"not there", "w=o|,a|,b| xx=o|,a|,b|", "", impl.ErrNone},
		{"nothing at all", "", "", impl.ErrNone},
		{"a binary base", "x=\x00o|,a|,b|", "", impl.ErrForm},
		{"ours is binary", "x=o|,a|\x00,b|", "", impl.ErrForm},
		{"theirs is binary", "x=o|,a|,\x00", "", impl.ErrForm},
		{"all are binary", "x=\x00,a\x00,b\x00", "", impl.ErrForm},
		{"ours is binary, no base", "x=-,\x00,b|", "", impl.ErrForm},
		{"a binary base, and nothing clashes", "x=\x00,a|,a|", "", impl.ErrForm},
		{"binary, and nothing clashes", "x=\x00,\x00,\x00", "", impl.ErrForm},
		{"another path is binary", "w=\x00,\x00,\x00 x=o|,b|,a|", "! 2 2 2|a|o|b|", impl.OK},
		{"binary, theirs is not there", "x=\x00,\x00,-", "", impl.ErrNone},
	} {
		index, store := clashing(c.told)
		if r := wantPre(t, c.name, store, index, "x"); r != (impl.TextResult{Code: c.code, Text: barred(c.want)}) {
			t.Errorf("%s: %+v, want %d, %q", c.name, r, c.code, c.want)
		}
		for _, path := range []string{"", "w", "w/x", "x/x", "xx", "X", "x ", "/", "\x00", strings.Repeat("x", 100000)} {
			wantPre(t, c.name, store, index, path)
		}
	}
}

func TestPreOfTellsItsCodes(t *testing.T) {
	index, store := clashing("b=o|,a|,b| x=o|,a|,b| y=-,a|,b|")
	none, form := int64(impl.ErrNone), int64(impl.ErrForm)
	want := func(name string, store []impl.Object, index []impl.Entry, path string, code int64) {
		t.Helper()
		if r := wantPre(t, name, store, index, path); r.Code != code {
			t.Errorf("%.80s, %.40q: %+v, want %d", name, path, r, code)
		}
	}
	for _, path := range []string{"x", "b", "none", ""} {
		for name, faulty := range faultyStores() {
			want(name, faulty.store, index, path, faulty.code)
			want(name+", a wrong index", faulty.store, faultyIndexes()["mode 3"].index, path, faulty.code)
			want(name+", a wrong index of too many", faulty.store, faultyIndexes()["too many"].index, path, faulty.code)
		}
		for name, faulty := range faultyIndexes() {
			want(name, store, faulty.index, path, faulty.code)
			want(name+", no blobs", nil, faulty.index, path, faulty.code)
		}
	}
	for _, text := range []string{"o|", "a|", "b|"} {
		want("without "+text, withoutBlob(store, text), index, "x", none)
	}
	want("without the base's, that it has not", withoutBlob(store, "o|"), index, "y", impl.OK)
	want("without all", nil, index, "x", none)
	want("a full store", withOthers(maxObjects, store...), index, "x", impl.OK)
	// One that is not there is told ahead of one that is binary.
	for _, c := range []struct{ told, gone string }{
		{"x=o|,\x00,b|", "o|"}, {"x=\x00,a|,b|", "a|"}, {"x=\x00,a|,b|", "b|"}, {"x=o|,a|,\x00", "o|"}, {"x=o|,a|,\x00", "a|"}, {"x=-,\x00,b|", "b|"},
	} {
		index, store := clashing(c.told)
		want(c.told, store, index, "x", form)
		want(c.told+" without "+c.gone, withoutBlob(store, c.gone), index, "x", none)
	}
	// An object of another kind is no blob.
	trees := soundStore(objectOf(impl.KindTree, "o\n"), objectOf(impl.KindCommit, "o\n"), objectOf(impl.KindBlob, "a\n"), objectOf(impl.KindBlob, "b\n"))
	want("a tree and a commit of the text", trees, index, "x", none)
}

func TestReplayRules(t *testing.T) {
	for _, c := range []struct {
		name, told, rules string
		done              int64
		want              string
	}{
		{"nothing", "", "", 0, ""},
		{"nothing, a rule", "", "o|,a|,b|=ab|", 0, ""},
		{"no clash", "x=s| y=*t|", "o|,a|,b|=ab|", 0, "x 0 1:s|, y 0 2:t|"},
		{"no rules", "x=o|,a|,b|", "", 0, "x 1 1:o|, x 2 1:a|, x 3 1:b|"},
		{"a rule of it", "x=o|,a|,b|", "o|,a|,b|=ab|", 1, "x 0 1:ab|"},
		{"a rule of it, learned turned round", "x=o|,a|,b|", "o|,b|,a|=ab|", 1, "x 0 1:ab|"},
		{"a rule of another base", "x=o|,a|,b|", "p|,a|,b|=ab|", 0, "x 1 1:o|, x 2 1:a|, x 3 1:b|"},
		{"a rule of another side", "x=o|,a|,b|", "o|,a|,c|=ab|", 0, "x 1 1:o|, x 2 1:a|, x 3 1:b|"},
		{"a rule whose base is a side of it", "x=o|,a|,b|", "a|,o|,b|=ab|", 0, "x 1 1:o|, x 2 1:a|, x 3 1:b|"},
		{"its rule among others", "x=o|,a|,b|", "o|,a|,c|=ac| o|,a|,b|=ab| p|,a|,b|=pab|", 1, "x 0 1:ab|"},
		{"settled as ours", "x=o|,a|,b|", "o|,a|,b|=a|", 1, "x 0 1:a|"},
		{"settled as theirs", "x=o|,a|,b|", "o|,a|,b|=b|", 1, "x 0 1:b|"},
		{"settled as nothing", "x=o|,a|,b|", "o|,a|,b|=", 1, "x 0 1:"},
		{"settled as a binary text", "x=o|,a|,b|", "o|,a|,b|=\x00", 1, "x 0 1:\x00"},
		{"to be run", "x=*o|,*a|,*b|", "o|,a|,b|=ab|", 1, "x 0 2:ab|"},
		{"to be run, the base not", "x=o|,*a|,*b|", "o|,a|,b|=ab|", 1, "x 0 2:ab|"},
		{"the base to be run", "x=*o|,a|,b|", "o|,a|,b|=ab|", 1, "x 0 1:ab|"},
		{"two modes", "x=o|,*a|,b|", "o|,a|,b|=ab|", 0, "x 1 1:o|, x 2 2:a|, x 3 1:b|"},
		{"two modes, theirs to be run", "x=o|,a|,*b|", "o|,a|,b|=ab|", 0, "x 1 1:o|, x 2 1:a|, x 3 2:b|"},
		{"two modes, the base to be run", "x=*o|,a|,*b|", "o|,a|,b|=ab|", 0, "x 1 2:o|, x 2 1:a|, x 3 2:b|"},
		{"no base", "x=-,a|,b|", ",a|,b|=ab|", 1, "x 0 1:ab|"},
		{"no base, a rule of an empty one", "x=,a|,b|", ",b|,a|=ab|", 1, "x 0 1:ab|"},
		{"the base and ours", "x=o|,a|,-", "o|,a|,b|=ab| o|,a|,=a|", 0, "x 1 1:o|, x 2 1:a|"},
		{"the base and theirs", "x=o|,-,b|", "o|,a|,b|=ab| o|,,b|=b|", 0, "x 1 1:o|, x 3 1:b|"},
		{"binary", "x=o|,a\x00,b|", "o|,a\x00,b|=ab|", 0, "x 1 1:o|, x 2 1:a\x00, x 3 1:b|"},
		{"nothing clashes in its texts", "x=o|,a|,a|", "o|,a|,b|=ab|", 0, "x 1 1:o|, x 2 1:a|, x 3 1:a|"},
		{"several paths, one rule", "a=o|,a|,b| b=o|,b|,a| c=s| d=*o|,*a|,*b|", "o|,a|,b|=ab|", 3, "a 0 1:ab|, b 0 1:ab|, c 0 1:s|, d 0 2:ab|"},
		{"several paths, several rules", "a=o|,a|,b| b=-,b|,a| c=o|,a|,c|", "o|,a|,b|=ab| ,a|,b|=AB| o|,a|,c|=ac|", 3, "a 0 1:ab|, b 0 1:AB|, c 0 1:ac|"},
		{"some of several", "a=o|,a|,b| b=o|,a|,c| c=o|,*a|,b| d=o|,b|,a| e=o|,a|,-", "o|,a|,b|=ab|", 2, "a 0 1:ab|, b 1 1:o|, b 2 1:a|, b 3 1:c|, c 1 1:o|, c 2 2:a|, c 3 1:b|, d 0 1:ab|, e 1 1:o|, e 2 1:a|"},
		{"the last alone", "a=o|,a|,c| b=o|,a|,b|", "o|,a|,b|=ab|", 1, "a 1 1:o|, a 2 1:a|, a 3 1:c|, b 0 1:ab|"},
		{"the first alone", "a=o|,a|,b| b=o|,a|,c|", "o|,a|,b|=ab|", 1, "a 0 1:ab|, b 1 1:o|, b 2 1:a|, b 3 1:c|"},
		{"one within another", "a=o|,a|,b| a/b=o|,a|,b|", "o|,a|,b|=ab|", 2, "a 0 1:ab|, a/b 0 1:ab|"},
		{"some of it settled by itself", "x=1|k|o|,0|k|b|,1|k|a|", "1|k|o|,0|k|a|,1|k|b|=0|k|ab|", 1, "x 0 1:0|k|ab|"},
		{"more of it clashes", "x=o|k|o|,a|k|a|,b|k|b|", "o|,a|,b|=ab|", 0, "x 1 1:o|k|o|, x 2 1:a|k|a|, x 3 1:b|k|b|"},
		{"the lesser sides turned within one text", "x=o|k|o|,a|k|b|,b|k|a|", "o|k|o|,a|k|a|,b|k|b|=ab|", 1, "x 0 1:ab|"},
	} {
		index, store := clashing(c.told)
		r := wantReplayed(t, c.name, store, index, learnt(c.rules))
		told := tellMerged(impl.TreesResult{Store: r.Store, Index: r.Index})
		if r.Code != impl.OK || r.Done != c.done || told != c.want {
			t.Errorf("%s: %d, %d: %q, want %d: %q", c.name, r.Code, r.Done, told, c.done, c.want)
		}
		if c.done == 0 && (!slices.Equal(r.Store, store) || !slices.Equal(r.Index, index)) {
			t.Errorf("%s: something has changed", c.name)
		}
	}
}

func TestReplayRulesTellsItsCodes(t *testing.T) {
	index, store := clashing("x=o|,a|,b|")
	rules := learnt("o|,a|,b|=ab|")
	want := func(name string, store []impl.Object, index []impl.Entry, rules []impl.Rule, code int64) {
		t.Helper()
		if r := wantReplayed(t, name, store, index, rules); r.Code != code || code != impl.OK && !sameReplayResult(r, impl.ReplayResult{Code: code}) {
			t.Errorf("%.80s: %d, want %d", name, r.Code, code)
		}
	}
	wrongRules, wrongIndex := faultyRules()["not rising"].rules, faultyIndexes()["mode 3"].index
	for name, faulty := range faultyStores() {
		want(name, faulty.store, index, rules, faulty.code)
		want(name+", all else wrong", faulty.store, wrongIndex, wrongRules, faulty.code)
		want(name+", too many of all else", faulty.store, faultyIndexes()["too many"].index, faultyRules()["too many"].rules, faulty.code)
	}
	for name, faulty := range faultyIndexes() {
		want(name, store, faulty.index, rules, faulty.code)
		want(name+", wrong rules", store, faulty.index, wrongRules, faulty.code)
		want(name+", too many rules", nil, faulty.index, faultyRules()["too many"].rules, faulty.code)
	}
	for name, faulty := range faultyRules() {
		want(name, store, index, faulty.rules, faulty.code)
		want(name+", no clash", store, staged("a=0"), faulty.rules, faulty.code)
		want(name+", nothing", nil, nil, faulty.rules, faulty.code)
		want(name+", no room", withOthers(maxObjects, store...), index, faulty.rules, faulty.code)
	}
	for _, text := range []string{"o|", "a|", "b|"} {
		want("without "+text, withoutBlob(store, text), index, rules, impl.OK)
	}
}

func TestReplayRulesPutsWhatWasSettled(t *testing.T) {
	many, clash := int64(impl.ErrMany), int64(impl.ErrClash)
	post, other := objectOf(impl.KindBlob, "ab\n"), objectOf(impl.KindBlob, "ac\n")
	ab, ac := refusing("ab\n"), refusing("ac\n")
	one, two := "x=o|,a|,b|", "x=o|,a|,b| y=o|,a|,c|"
	for _, c := range []struct {
		name, told, rules string
		count             int
		more              []impl.Object
		code, done        int64
	}{
		{"room for it", one, "o|,a|,b|=ab|", maxObjects - 1, nil, impl.OK, 1},
		{"no room", one, "o|,a|,b|=ab|", maxObjects, nil, many, 0},
		{"no room, it is there", one, "o|,a|,b|=ab|", maxObjects, []impl.Object{post}, impl.OK, 1},
		{"no room, it is a side's", one, "o|,a|,b|=b|", maxObjects, nil, impl.OK, 1},
		{"no room, no rule", one, "o|,a|,c|=ac|", maxObjects, nil, impl.OK, 0},
		{"no room, two modes", "x=o|,a|,*b|", "o|,a|,b|=ab|", maxObjects, nil, impl.OK, 0},
		{"it is there", one, "o|,a|,b|=ab|", 50, []impl.Object{post}, impl.OK, 1},
		{"other data of its name", one, "o|,a|,b|=ab|", 50, []impl.Object{ab}, clash, 0},
		{"other data of its name, no room", one, "o|,a|,b|=ab|", maxObjects, []impl.Object{ab}, clash, 0},
		{"other data of its name, no rule", one, "o|,a|,c|=ab|", 50, []impl.Object{ab}, impl.OK, 0},
		{"other data of its name, two modes", "x=o|,*a|,b|", "o|,a|,b|=ab|", 50, []impl.Object{ab}, impl.OK, 0},
		{"room for two", two, "o|,a|,b|=ab| o|,a|,c|=ac|", maxObjects - 2, nil, impl.OK, 2},
		{"room for one of two", two, "o|,a|,b|=ab| o|,a|,c|=ac|", maxObjects - 1, nil, many, 0},
		{"room for one that both have", two, "o|,a|,b|=ab| o|,a|,c|=ab|", maxObjects - 1, nil, impl.OK, 2},
		{"room for one, the other is there", two, "o|,a|,b|=ab| o|,a|,c|=ac|", maxObjects - 1, []impl.Object{other}, impl.OK, 2},
		{"room for one, and one refused behind it", two, "o|,a|,b|=ab| o|,a|,c|=ac|", maxObjects - 1, []impl.Object{ac}, clash, 0},
		{"no room, ahead of one refused", two, "o|,a|,b|=ab| o|,a|,c|=ac|", maxObjects, []impl.Object{ac}, many, 0},
		{"one refused, ahead of no room", two, "o|,a|,b|=ab| o|,a|,c|=ac|", maxObjects, []impl.Object{ab}, clash, 0},
		{"paths in their order, not the rules'", "x=z|,a|,b| y=a|,b|,c|", "z|,a|,b|=ab| a|,b|,c|=ac|", maxObjects, []impl.Object{ac}, many, 0},
	} {
		index, blobs := clashing(c.told)
		store := withOthers(c.count, soundStore(append(blobs, c.more...)...)...)
		if r := wantReplayed(t, c.name, store, index, learnt(c.rules)); r.Code != c.code || r.Done != c.done {
			t.Errorf("%s: %d, %d, want %d, %d", c.name, r.Code, r.Done, c.code, c.done)
		}
	}
	// Two that have one name refuse each other: the one behind is told.
	index, store := clashing(two)
	rules := learnt("o|,a|,b|=A\xf0 o|,a|,c|=Bm")
	if r := wantReplayed(t, "two of one name", store, index, rules); r.Code != clash {
		t.Errorf("two of one name: %+v", r)
	}
}

func TestReplayRulesAsksTheStoreGiven(t *testing.T) {
	// What comes of x is a side of y and the base of z, that the store had not.
	told := "w=o|,a|,ab| x=o|,a|,b| y=o|,a|,ab| z=ab|,a|,b|"
	index, store := clashing(told)
	rules := learnt("o|,a|,b|=ab| o|,a|,ab|=y| ab|,a|,b|=z|")
	if r := wantReplayed(t, "all there", store, index, rules); r.Done != 4 {
		t.Errorf("all there: %+v", r)
	}
	gone := withoutBlob(store, "ab|")
	r := wantReplayed(t, "one not there", gone, index, rules)
	if r.Code != impl.OK || r.Done != 1 || !slices.Equal(impl.ClashesIn(r.Index).Lines, []string{"w", "y", "z"}) {
		t.Errorf("one not there: %+v", r)
	}
	// With the store that came of it the others are settled.
	if r := wantReplayed(t, "once more", r.Store, r.Index, rules); r.Done != 3 {
		t.Errorf("once more: %+v", r)
	}
}

func TestReplayRulesOfAsManyAsMayBe(t *testing.T) {
	// As many paths as may clash, and as many rules: of every path but some.
	var words, rules []string
	for i := range maxEntries / 3 {
		words = append(words, fmt.Sprintf("f%03d=o%d|,a%d|,b%d|", i, i%50, i%50, i%50))
	}
	for i := range maxRules {
		rules = append(rules, fmt.Sprintf("o%d|,b%d|,a%d|=p%d|", i, i, i, i%9))
	}
	index, store := clashing(strings.Join(words, " "))
	index = append(index, staged("z=12")...)
	r := wantReplayed(t, "many", store, index, learnt(strings.Join(rules, " ")))
	if r.Code != impl.OK || r.Done != maxRules+16 || len(r.Store) != len(store)+9 || len(index) != maxEntries {
		t.Errorf("many: %d, %d of %d", r.Code, r.Done, len(index))
	}
}

// settledOnce: a clash is learned from one index, and met again in another one, turned round or not.
func settledOnce(t *testing.T, name string, store []impl.Object, index []impl.Entry, path string, post string, met map[string]int) {
	t.Helper()
	pre := wantPre(t, name, store, index, path)
	met[fmt.Sprintf("PreOf %d", pre.Code)]++
	if pre.Code != impl.OK {
		return
	}
	rules := impl.LearnRule(nil, pre.Text, post)
	mode := oneModeByWords(index, path)
	for _, again := range [][]impl.Entry{index, impl.SwapStages(index).Entries} {
		r := wantReplayed(t, name, store, again, rules.Rules)
		at := slices.Index(r.Index, impl.Entry{Path: path, Mode: mode, Id: impl.IdOf(impl.KindBlob, post).Text})
		if r.Code != impl.OK || mode == 0 && slices.Contains(impl.ClashesIn(again).Lines, path) != slices.Contains(impl.ClashesIn(r.Index).Lines, path) || mode != 0 && at < 0 {
			t.Errorf("%s, %s: it is not settled so: %+v", name, path, r)
		}
		met[fmt.Sprintf("mode %d, done %d", mode, min(r.Done, 2))]++
	}
}

func TestPromise14WhatWasSettledOnceIsSettledSo(t *testing.T) {
	random := rand.New(rand.NewSource(41))
	met := map[string]int{}
	for round := range 150 {
		blobs := alikeBlobs(random, 3+round%7)
		store := soundStore(blobs...)
		var index []impl.Entry
		for i := range 1 + random.Intn(12) {
			path := fmt.Sprintf("f%02d", i)
			for _, digit := range []string{"0", "123", "23", "123", "13", "12", "123"}[random.Intn(7)] {
				mode := int64(1 + random.Intn(5)/4)
				index = append(index, impl.Entry{Path: path, Stage: int64(digit - '0'), Mode: mode, Id: blobs[random.Intn(len(blobs))].Id})
			}
		}
		if round%4 == 3 {
			store = slices.Delete(store, 0, 1)
		}
		name := fmt.Sprintf("round %d", round)
		for _, path := range impl.ClashesIn(index).Lines {
			settledOnce(t, name, store, index, path, "settled at "+path+"\n", met)
		}
		// All of them together, some of them learned turned round.
		var rules []impl.Rule
		for i, path := range impl.ClashesIn(index).Lines {
			from := index
			if i%2 == 1 {
				from = impl.SwapStages(index).Entries
			}
			if pre := impl.PreOf(store, from, path); pre.Code == impl.OK && random.Intn(3) > 0 {
				rules = impl.LearnRule(rules, pre.Text, []string{"one\n", "two\n", blobs[0].Data}[random.Intn(3)]).Rules
			}
		}
		r := wantReplayed(t, name, store, index, rules)
		met[fmt.Sprintf("rules %d, done %d", min(len(rules), 2), min(r.Done, 2))]++
	}
	wantMet(t, met, 10, "PreOf 0", "PreOf 1", "PreOf 4", "mode 0, done 0", "mode 1, done 1", "mode 2, done 1", "rules 0, done 0", "rules 2, done 2", "rules 1, done 1")
}

func TestPromise14MergesThatClashAgain(t *testing.T) {
	// A clash of a merge is learned, and is settled so where the sides are merged the other way.
	store := told("o x=1|2|3| y=1|", "a:o x=1|2|4| y=2|", "b:o x=1|2|5| y=3|")
	a, b := idNamed("a"), idNamed("b")
	forth, back := impl.MergeCommits(store, a, b), impl.MergeCommits(store, b, a)
	pre := wantPre(t, "forth", forth.Store, forth.Index, "x")
	if pre.Text != "= 4\n1\n2\n! 2 2 2\n4\n3\n5\n" {
		t.Fatalf("forth: %+v", pre)
	}
	rules := impl.LearnRule(nil, pre.Text, "1\n2\n45\n").Rules
	for name, m := range map[string]impl.CommitsResult{"forth": forth, "back": back} {
		r := wantReplayed(t, name, m.Store, m.Index, rules)
		if r.Done != 1 || !slices.Equal(impl.ClashesIn(r.Index).Lines, []string{"y"}) || r.Index[0] != (impl.Entry{Path: "x", Mode: 1, Id: objectOf(1, "1\n2\n45\n").Id}) {
			t.Errorf("%s: %+v", name, r)
		}
	}
}

// rulesCase: the arguments of the functions of chapter 13.
type rulesCase struct {
	store []impl.Object
	index []impl.Entry
	rules []impl.Rule
	pre   string
	post  string
	path  string
	texts [3]string
}

// anyRules: arguments with and without faults.
func anyRules() []rulesCase {
	texts := [][3]string{{"o\n", "b\n", "a\n"}, {"", "", ""}, {"1\nk\no\n", "0\nk\nb\n", "1\nk\na"}, {"a", "", "b"}, {"o\n", "a\n", "o\n"}, {strings.Repeat("\n", 101), "a", "b"}}
	lists := [][]impl.Rule{learnt("o|,a|,b|=ab| ,a|,b|=AB| o|,a|,c|=ac|"), nil, {}, fullRules(maxRules), ruled("a=x b=y"), faultyRules()["one twice"].rules, faultyRules()["too many"].rules, learnt("o|,b|,a|=a|")}
	var cases []rulesCase
	for i, told := range []string{"x=o|,a|,b| y=s| z=-,b|,a|", "x=o|,*a|,b|", "x=o|,a|,-", "", "x=s|", "x=o|,a\x00,b|", "x=o|,a|,b| y=o|,b|,a| z=o|,a|,c|"} {
		index, store := clashing(told)
		for j := range lists {
			c := rulesCase{store: store, index: index, rules: lists[j], path: []string{"x", "z", "none", "y"}[j%4], texts: texts[(i+j)%len(texts)]}
			c.pre, c.post = []string{"a", "p002", "", "new", "! 2 2 2\na\no\nb\n"}[(i+j)%5], []string{"post\n", "", strings.Repeat("a", maxText+1)}[(i*2+j)%3]
			if i == 2 && j > 4 {
				c.store = faultyStores()["not rising"].store
			}
			if i == 3 && j > 4 {
				c.index = faultyIndexes()["one twice"].index
			}
			cases = append(cases, c)
		}
	}
	return cases
}

// tellRules: what all functions of chapter 13 answer to these arguments, in words.
func tellRules(c rulesCase) string {
	return fmt.Sprintf("%#v %d %#v %#v %#v %#v %#v", impl.NormalText(c.texts[0], c.texts[1], c.texts[2]), impl.RulesFault(c.rules), impl.LearnRule(c.rules, c.pre, c.post), impl.ForgetRule(c.rules, c.pre), impl.FindRule(c.rules, c.pre), impl.ReplayRules(c.store, c.index, c.rules), impl.PreOf(c.store, c.index, c.path))
}

func TestPromise1RulesHangOnTheArgumentsAlone(t *testing.T) {
	cases := anyRules()
	tell := func(i int) string {
		c := cases[i]
		c.store, c.index, c.rules = slices.Clone(c.store), slices.Clone(c.index), slices.Clone(c.rules)
		c.pre, c.post, c.path = strings.Clone(c.pre), strings.Clone(c.post), strings.Clone(c.path)
		return tellRules(c)
	}
	answers := make([]string, len(cases))
	for i := range answers {
		answers[i] = tell(i)
	}
	// Backwards each call stands behind other ones than before.
	for i := len(answers) - 1; i >= 0; i-- {
		if tell(i) != answers[i] {
			t.Errorf("case %d: another answer at the second call", i)
		}
	}
	// Often, so that no order in which a map is gone through is seen.
	for _, i := range []int{0, 7, 48} {
		for range 30 {
			if tell(i) != answers[i] {
				t.Errorf("case %d: another answer at another call", i)
			}
		}
	}
}

func TestPromise1RulesChangeNoArgument(t *testing.T) {
	for i, c := range anyRules() {
		// What lies behind a list in its memory is not the function's either.
		store, index := append(slices.Clone(c.store), impl.Object{Id: "behind", Kind: 7}), append(slices.Clone(c.index), impl.Entry{Path: "behind"})
		rules := append(slices.Clone(c.rules), impl.Rule{Pre: "behind"})
		keptStore, keptIndex, keptRules := slices.Clone(store), slices.Clone(index), slices.Clone(rules)
		c.store, c.index, c.rules = store[:len(store)-1], index[:len(index)-1], rules[:len(rules)-1]
		for _, pre := range []string{c.pre, "0", "a", "p001", "zzz"} {
			c.pre = pre
			tellRules(c)
		}
		if !slices.Equal(store, keptStore) || !slices.Equal(index, keptIndex) || !slices.Equal(rules, keptRules) {
			t.Errorf("case %d: a list was changed, or what lies behind it", i)
		}
	}
}

func textsOfRules(rules []impl.Rule) []string {
	var texts []string
	for _, rule := range rules {
		texts = append(texts, rule.Pre, rule.Post)
	}
	return texts
}

func TestPromise1RulesAreNewMemory(t *testing.T) {
	looked := map[string]int{}
	for i, c := range anyRules() {
		given := slices.Concat(textsOfStore(c.store), textsOfIndex(c.index), textsOfRules(c.rules), c.texts[:], []string{c.pre, c.post, c.path})
		before := tellRules(c)
		for name, r := range map[string]impl.RulesResult{"LearnRule": impl.LearnRule(c.rules, c.pre, c.post), "ForgetRule": impl.ForgetRule(c.rules, c.pre)} {
			wantNewTexts(t, fmt.Sprintf("case %d, %s", i, name), given, textsOfRules(r.Rules))
			looked[fmt.Sprintf("%s, %v", name, len(r.Rules) > 0)]++
			clear(r.Rules)
		}
		for name, r := range map[string]impl.TextResult{"NormalText": impl.NormalText(c.texts[0], c.texts[1], c.texts[2]), "FindRule": impl.FindRule(c.rules, c.pre), "PreOf": impl.PreOf(c.store, c.index, c.path)} {
			wantNewTexts(t, fmt.Sprintf("case %d, %s", i, name), given, []string{r.Text})
			looked[fmt.Sprintf("%s, %v", name, r.Text != "")]++
		}
		r := impl.ReplayRules(c.store, c.index, c.rules)
		wantNewTexts(t, fmt.Sprintf("case %d, ReplayRules", i), given, append(textsOfStore(r.Store), textsOfIndex(r.Index)...))
		looked[fmt.Sprintf("ReplayRules, code %d, done %d", r.Code, min(r.Done, 2))]++
		clear(r.Store)
		clear(r.Index)
		if tellRules(c) != before {
			t.Errorf("case %d: an answer shares its lists with an argument, or with another answer", i)
		}
	}
	wantMet(t, looked, 1, "LearnRule, true", "ForgetRule, true", "NormalText, true", "FindRule, true", "PreOf, true", "ReplayRules, code 0, done 0", "ReplayRules, code 0, done 1", "ReplayRules, code 0, done 2")
}
