package tests

import (
	"fmt"
	"math"
	"math/rand"
	"regexp"
	"slices"
	"strconv"
	"strings"
	"testing"

	"loop.example/g00172/impl"
)

const maxObjects = 200

func TestNumbersOfTheStore(t *testing.T) {
	got := []int64{impl.KindBlob, impl.KindTree, impl.KindCommit, impl.MaxObjects}
	if !slices.Equal(got, []int64{1, 2, 3, maxObjects}) {
		t.Errorf("kinds of objects and how many: %d", got)
	}
}

var wrongKinds = []int64{math.MinInt64, math.MinInt64 + 1, -3, -2, -1, 0, 4, 5, 1 << 32, 1<<32 + 1, 1<<32 + 3, math.MaxInt64}
var rightKinds = []int64{1, 2, 3}

// idByWords lets fmt write the digits.
func idByWords(kind int64, data string) (int64, string) {
	if kind != 1 && kind != 2 && kind != 3 {
		return impl.ErrRange, ""
	}
	if len(data) > maxText || strings.Count(data, "\n") > maxLines || strings.Count(data, "\n") == maxLines && !strings.HasSuffix(data, "\n") {
		return impl.ErrMany, ""
	}
	return impl.OK, fmt.Sprintf("%s%04x", []string{"b", "t", "c"}[kind-1], digestByHand(data))
}

// objectOf: an object with the id that it should have (none, if it can have none).
func objectOf(kind int64, data string) impl.Object {
	_, id := idByWords(kind, data)
	return impl.Object{Id: id, Kind: kind, Data: data}
}

// storeOf: the objects as a store, in the order of their ids.
func storeOf(objects ...impl.Object) []impl.Object {
	store := slices.Clone(objects)
	slices.SortStableFunc(store, func(a impl.Object, b impl.Object) int { return strings.Compare(a.Id, b.Id) })
	return store
}

// twin: other data with the digest of data, whose second byte must be 131 or more.
func twin(data string) string {
	return string([]byte{data[0] + 1, data[1] - 131}) + data[2:]
}

// storeFaultByWords asks what the document asks, one question at a time.
func storeFaultByWords(store []impl.Object) int64 {
	if len(store) > maxObjects {
		return impl.ErrMany
	}
	for i, object := range store {
		code, id := idByWords(object.Kind, object.Data)
		if code != impl.OK {
			return code
		}
		if object.Id != id {
			return impl.ErrForm
		}
		if i > 0 && strings.Compare(store[i-1].Id, object.Id) != -1 {
			return impl.ErrForm
		}
	}
	return impl.OK
}

// putByWords finds the place of an object by going through the list.
func putByWords(store []impl.Object, kind int64, data string) impl.StoreResult {
	if code := storeFaultByWords(store); code != impl.OK {
		return impl.StoreResult{Code: code}
	}
	code, id := idByWords(kind, data)
	if code != impl.OK {
		return impl.StoreResult{Code: code}
	}
	at := 0
	for _, object := range store {
		if object.Id < id {
			at++
		}
		if object.Id == id && object.Data == data {
			return impl.StoreResult{Id: id, Store: slices.Clone(store)}
		}
		if object.Id == id {
			return impl.StoreResult{Code: impl.ErrClash}
		}
	}
	if len(store) == maxObjects {
		return impl.StoreResult{Code: impl.ErrMany}
	}
	return impl.StoreResult{Id: id, Store: slices.Insert(slices.Clone(store), at, impl.Object{Id: id, Kind: kind, Data: data})}
}

// mergeStoresByWords puts the objects of b one by one.
func mergeStoresByWords(a []impl.Object, b []impl.Object) impl.StoreResult {
	for _, store := range [][]impl.Object{a, b} {
		if code := storeFaultByWords(store); code != impl.OK {
			return impl.StoreResult{Code: code}
		}
	}
	r := impl.StoreResult{Store: slices.Clone(a)}
	for _, object := range b {
		r = putByWords(r.Store, object.Kind, object.Data)
		if r.Code != impl.OK {
			return r
		}
	}
	return impl.StoreResult{Store: r.Store}
}

func getByWords(store []impl.Object, kind int64, id string) impl.ObjectResult {
	if code := storeFaultByWords(store); code != impl.OK {
		return impl.ObjectResult{Code: code}
	}
	if !slices.Contains(rightKinds, kind) {
		return impl.ObjectResult{Code: impl.ErrRange}
	}
	for _, object := range store {
		if object.Id == id && object.Kind == kind {
			return impl.ObjectResult{Object: object}
		}
	}
	return impl.ObjectResult{Code: impl.ErrNone}
}

func idsByWords(store []impl.Object, kind int64) impl.LinesResult {
	if code := storeFaultByWords(store); code != impl.OK {
		return impl.LinesResult{Code: code}
	}
	if !slices.Contains(rightKinds, kind) {
		return impl.LinesResult{Code: impl.ErrRange}
	}
	var ids []string
	for _, object := range store {
		if object.Kind == kind {
			ids = append(ids, object.Id)
		}
	}
	slices.Sort(ids)
	return impl.LinesResult{Lines: ids}
}

func sameStoreResult(a impl.StoreResult, b impl.StoreResult) bool {
	return a.Code == b.Code && a.Id == b.Id && slices.Equal(a.Store, b.Store)
}

func wantPut(t *testing.T, name string, store []impl.Object, kind int64, data string) impl.StoreResult {
	t.Helper()
	got, want := impl.PutObject(store, kind, data), putByWords(store, kind, data)
	if !sameStoreResult(got, want) {
		t.Errorf("%s: PutObject of kind %d = %#v, want %#v", name, kind, got, want)
	}
	return want
}

func wantMergedStores(t *testing.T, name string, a []impl.Object, b []impl.Object) impl.StoreResult {
	t.Helper()
	got, want := impl.MergeStores(a, b), mergeStoresByWords(a, b)
	if !sameStoreResult(got, want) {
		t.Errorf("%s: MergeStores = %#v, want %#v", name, got, want)
	}
	return want
}

func wantGot(t *testing.T, name string, store []impl.Object, kind int64, id string) {
	t.Helper()
	if got, want := impl.GetObject(store, kind, id), getByWords(store, kind, id); got != want {
		t.Errorf("%s: GetObject of kind %d and %q = %#v, want %#v", name, kind, id, got, want)
	}
}

func wantIds(t *testing.T, name string, store []impl.Object, kind int64) {
	t.Helper()
	got, want := impl.IdsOf(store, kind), idsByWords(store, kind)
	if got.Code != want.Code || !slices.Equal(got.Lines, want.Lines) {
		t.Errorf("%s: IdsOf kind %d = %#v, want %#v", name, kind, got, want)
	}
}

// fullStore: so many objects, of all three kinds, of the lines that count up from first.
func fullStore(count int, first int) []impl.Object {
	var store []impl.Object
	for number := first; len(store) < count; number++ {
		object := objectOf(int64(number%3+1), "object "+strconv.Itoa(number)+"\n")
		if !slices.ContainsFunc(store, func(other impl.Object) bool { return other.Id == object.Id }) {
			store = append(store, object)
		}
	}
	return storeOf(store...)
}

func wantId(t *testing.T, kind int64, data string) string {
	t.Helper()
	got := impl.IdOf(kind, data)
	code, id := idByWords(kind, data)
	if got != (impl.TextResult{Code: code, Text: id}) {
		t.Errorf("IdOf %d of %d bytes (%.10q) = %#v, want %d, %q", kind, len(data), data, got, code, id)
	}
	if got.Code == impl.OK && !impl.IsId(got.Text) {
		t.Errorf("IsId(%q) is false, and it is the id of something", got.Text)
	}
	return id
}

func TestIdOf(t *testing.T) {
	known := []struct {
		kind int64
		data string
		id   string
	}{
		{1, "a", "b03f6"}, {2, "a", "t03f6"}, {3, "a", "c03f6"}, {1, "", "b0007"}, {2, "", "t0007"}, {3, "", "c0007"},
		{1, "\x00", "b0395"}, {1, "\xff", "b0494"}, {1, "\n", "b039f"},
	}
	for _, c := range known {
		if got := impl.IdOf(c.kind, c.data); got != (impl.TextResult{Text: c.id}) {
			t.Errorf("IdOf(%d, %q) = %#v, want %q", c.kind, c.data, got, c.id)
		}
	}
}

func TestIdsOfEveryTwoBytes(t *testing.T) {
	digits := map[byte]bool{}
	zerosAhead := map[int]bool{}
	for one := range 256 {
		for other := range 256 {
			kind := rightKinds[(one+other)%3]
			id := wantId(t, kind, string([]byte{byte(one), byte(other)}))
			for _, digit := range []byte(id[1:]) {
				digits[digit] = true
			}
			zerosAhead[len(id[1:])-len(strings.TrimLeft(id[1:], "0"))] = true
		}
		for _, kind := range rightKinds {
			wantId(t, kind, string([]byte{byte(one)}))
		}
	}
	if len(digits) != 16 || !zerosAhead[0] || !zerosAhead[1] || !zerosAhead[2] || !zerosAhead[3] {
		t.Errorf("the texts do not reach all digits: %v, and zeros ahead: %v", digits, zerosAhead)
	}
}

// dataAtBounds: data at the bounds of a text, and one behind them.
func dataAtBounds() []string {
	return []string{
		"", "\x00", "\xff", "\x00\xff\x00", strings.Repeat("\xff", maxText), strings.Repeat("\x00", maxText), strings.Repeat("a", maxText), strings.Repeat("a", maxText+1), strings.Repeat("a", 50*maxText),
		strings.Repeat("\n", maxLines), strings.Repeat("\n", maxLines+1), strings.Repeat("\n", maxLines) + "a", strings.Repeat("\n", maxLines-1) + "a",
	}
}

func TestIdOfAtItsBounds(t *testing.T) {
	for _, data := range dataAtBounds() {
		for _, kind := range slices.Concat(rightKinds, wrongKinds) {
			wantId(t, kind, data)
		}
	}
	if r := impl.IdOf(0, strings.Repeat("a", maxText+1)); r != (impl.TextResult{Code: impl.ErrRange}) {
		t.Errorf("a wrong kind comes ahead of data that is too long: %#v", r)
	}
	if r := impl.IdOf(1, strings.Repeat("a", maxText+1)); r != (impl.TextResult{Code: impl.ErrMany}) {
		t.Errorf("data that is too long: %#v", r)
	}
}

func TestIsId(t *testing.T) {
	form := regexp.MustCompile(`\A[btc][0-9a-f]{4}\z`)
	want := func(s string) {
		if got := impl.IsId(s); got != form.MatchString(s) {
			t.Errorf("IsId(%q) = %v", s, got)
		}
	}
	for _, s := range []string{"b0000", "t0000", "c0000", "bffff", "tabcd", "cef01", "b2345", "t6789"} {
		if !impl.IsId(s) {
			t.Errorf("IsId(%q) is false", s)
		}
	}
	for _, s := range []string{
		"", "b", "b0", "b000", "b00000", "a0000", "d0000", "s0000", "u0000", "B0000", "T0000", "C0000", "00000", "0000", "b03fA", "b03fF", "bA3f6", "b03fg", "b03f/", "b03f:", "b03f`", "b03f@", "b03fG",
		" b03f6", "b03f6 ", "b03f6\n", "\nb03f6", "b03f6b03f6", "b 3f6", "b+3f6", "b-3f6", "b0x3f", "b03f\x00", "\x80\x80\x80\x80\x80", "b03f\xb6", "b03\u00e9", "b\u0663\u0663", "\xe20000", "b03f6\x00",
	} {
		if impl.IsId(s) {
			t.Errorf("IsId(%q) is true", s)
		}
	}
	for _, id := range []string{"b03f6", "t9a0f", "cffff"} {
		for at := range len(id) {
			for b := range 256 {
				want(id[:at] + string([]byte{byte(b)}) + id[at+1:])
			}
			want(id[:at])
			want(id[:at] + id[at:] + id[at:])
			want(id[:at] + "0" + id[at:])
		}
	}
	for length := range 7 {
		for _, parts := range listsOver([]string{"b", "t", "0", "g"}, length) {
			want(strings.Join(parts, ""))
		}
	}
}

// smallPool: objects that have little in common, two that clash (of each of two kinds), and one data under all kinds.
func smallPool() []impl.Object {
	return []impl.Object{
		objectOf(impl.KindBlob, "a"), objectOf(impl.KindBlob, ""), objectOf(impl.KindTree, ""), objectOf(impl.KindCommit, ""),
		objectOf(impl.KindBlob, "A\x90"), objectOf(impl.KindBlob, "B\x0d"), objectOf(impl.KindCommit, "A\x90"), objectOf(impl.KindCommit, "B\x0d"),
	}
}

// checkStore holds all that the chapter says of one store against what is reckoned here.
func checkStore(t *testing.T, name string, store []impl.Object, pool []impl.Object) {
	t.Helper()
	if got, want := impl.StoreFault(store), storeFaultByWords(store); got != want {
		t.Errorf("%s: StoreFault = %d, want %d", name, got, want)
	}
	for _, object := range pool {
		wantPut(t, name, store, object.Kind, object.Data)
		for kind := int64(0); kind <= 4; kind++ {
			wantGot(t, name, store, kind, object.Id)
		}
	}
	for kind := int64(0); kind <= 4; kind++ {
		wantIds(t, name, store, kind)
	}
}

func TestPromise6EverySmallStore(t *testing.T) {
	pool := smallPool()
	faulty := []impl.Object{{}, {Id: "b0007", Kind: 0}, {Id: "b0008", Kind: 1}, {Id: "b0007", Kind: 2}, {Id: "B0007", Kind: 1}, {Id: "b0007", Kind: 4}, {Kind: 1, Data: strings.Repeat("a", maxText+1)}}
	numbers := make([]string, len(pool)+len(faulty))
	for i := range numbers {
		numbers[i] = strconv.Itoa(i)
	}
	few := []impl.Object{pool[0], pool[4], pool[5], faulty[2], faulty[5]}
	for length := range 4 {
		for _, places := range listsOver(numbers, length) {
			var store []impl.Object
			for _, place := range places {
				i, _ := strconv.Atoi(place)
				store = append(store, slices.Concat(pool, faulty)[i])
			}
			checkStore(t, fmt.Sprintf("%#v", store), store, few)
		}
	}
}

// wantPromise6 asks the promise itself of one object that is put, with no word from the reckonings of this file.
func wantPromise6(t *testing.T, name string, store []impl.Object, object impl.Object) []impl.Object {
	t.Helper()
	put := impl.PutObject(store, object.Kind, object.Data)
	if put.Code != impl.OK {
		t.Fatalf("%s: PutObject = %d", name, put.Code)
	}
	got := impl.GetObject(put.Store, object.Kind, put.Id)
	if got.Code != impl.OK || got.Object != (impl.Object{Id: put.Id, Kind: object.Kind, Data: object.Data}) {
		t.Errorf("%s: what was put is not got: %#v", name, got)
	}
	if again := impl.PutObject(put.Store, object.Kind, object.Data); again.Code != impl.OK || again.Id != put.Id || !slices.Equal(again.Store, put.Store) {
		t.Errorf("%s: what is put twice is not there once: %#v", name, again)
	}
	if impl.StoreFault(put.Store) != impl.OK {
		t.Errorf("%s: the store has a fault", name)
	}
	for _, held := range store {
		if impl.GetObject(put.Store, held.Kind, held.Id).Object != held {
			t.Errorf("%s: %q is lost", name, held.Id)
		}
	}
	return put.Store
}

func TestPromise6WhatIsPutIsGotOnce(t *testing.T) {
	random := rand.New(rand.NewSource(5))
	for round := range 20 {
		objects := fullStore(maxObjects/10+round, round*1000)
		random.Shuffle(len(objects), func(i int, j int) { objects[i], objects[j] = objects[j], objects[i] })
		var store []impl.Object
		for i, object := range objects {
			store = wantPromise6(t, fmt.Sprintf("round %d, object %d", round, i), store, object)
		}
		if !slices.Equal(store, storeOf(objects...)) {
			t.Errorf("round %d: in another order other objects", round)
		}
	}
	// Ahead of the first, behind the last, and between.
	between := storeOf(objectOf(2, "x"), objectOf(2, "y"))
	wantPromise6(t, "ahead", between, objectOf(1, "z"))
	wantPromise6(t, "behind", between, objectOf(3, "z"))
	wantPromise6(t, "between", storeOf(objectOf(1, "x"), objectOf(3, "y")), objectOf(2, "z"))
	wantPromise6(t, "one data under two kinds", []impl.Object{objectOf(1, "x")}, objectOf(2, "x"))
}

func TestPromise6OtherDataOfOneNameIsRefused(t *testing.T) {
	pairs := [][2]string{{"A\x90", "B\x0d"}, {"\x00\x83", "\x01\x00"}, {"\xfe\xff", "\xff|"}, {"a\x8d\n", "b\n\n"}, {"ab", strings.Repeat("\x00", 5) + "a"}}
	for i := range pairs[:4] {
		if twin(pairs[i][0]) != pairs[i][1] {
			t.Fatalf("%q is not %q with another name", pairs[i][1], pairs[i][0])
		}
	}
	// The last pair is found by trial: any two texts of other lengths will do.
	for number := 0; digestByHand(pairs[4][1]) != digestByHand(pairs[4][0]); number++ {
		pairs[4][1] = "trial " + strconv.Itoa(number)
	}
	for _, pair := range pairs {
		for _, kind := range rightKinds {
			for _, more := range []int{0, 1, 50, maxObjects - 1} {
				store := putByWords(fullStore(more, 7), kind, pair[0]).Store
				for _, data := range []string{pair[0], pair[1]} {
					wantPut(t, fmt.Sprintf("%q with %d others", pair, more), store, kind, data)
				}
				if r := impl.PutObject(store, kind, pair[1]); !sameStoreResult(r, impl.StoreResult{Code: impl.ErrClash}) {
					t.Errorf("%q in place of %q: %#v", pair[1], pair[0], r)
				}
				if r := impl.MergeStores(store, []impl.Object{objectOf(kind, pair[1])}); !sameStoreResult(r, impl.StoreResult{Code: impl.ErrClash}) {
					t.Errorf("%q and %q merged: %#v", pair[1], pair[0], r)
				}
			}
			// Under another kind it has another name, and so is taken.
			other := kind%3 + 1
			wantPromise6(t, "another kind", []impl.Object{objectOf(kind, pair[0])}, objectOf(other, pair[1]))
		}
	}
}

func TestPutObjectAtItsBounds(t *testing.T) {
	full := fullStore(maxObjects, 1)
	room := slices.Delete(slices.Clone(full), 77, 78)
	over := fullStore(maxObjects+1, 1)
	if impl.StoreFault(full) != impl.OK || impl.StoreFault(over) != impl.ErrMany {
		t.Error("StoreFault at its bound")
	}
	for _, object := range []impl.Object{full[0], full[77], full[maxObjects-1]} {
		if r := wantPut(t, "one that is there", full, object.Kind, object.Data); r.Code != impl.OK || len(r.Store) != maxObjects {
			t.Errorf("one that is there: %#v", r)
		}
	}
	if r := wantPut(t, "one more than there is room for", full, impl.KindBlob, "new"); r.Code != impl.ErrMany {
		t.Errorf("one more: %#v", r)
	}
	if r := wantPut(t, "the last room", room, full[77].Kind, full[77].Data); !slices.Equal(r.Store, full) {
		t.Errorf("the last room: %#v", r)
	}
	wantPut(t, "the last room for a new one", room, impl.KindBlob, "new")
	for _, data := range dataAtBounds() {
		for _, kind := range slices.Concat(rightKinds, wrongKinds) {
			for _, store := range [][]impl.Object{nil, {}, full, room, over} {
				wantPut(t, fmt.Sprintf("%d bytes into %d", len(data), len(store)), store, kind, data)
			}
		}
	}
	checkStore(t, "full", full, []impl.Object{full[0], full[maxObjects-1], objectOf(1, "new")})
	checkStore(t, "too full", over, []impl.Object{over[0], objectOf(1, "new")})
	checkStore(t, "nil", nil, smallPool())
	checkStore(t, "empty", []impl.Object{}, smallPool())
}

// faultyStores: stores with a fault of each kind, and the code of it.
func faultyStores() map[string]struct {
	store []impl.Object
	code  int64
} {
	type faulty = struct {
		store []impl.Object
		code  int64
	}
	long, a, empty := strings.Repeat("a", maxText+1), objectOf(1, "a"), objectOf(1, "")
	form, many, wrong := int64(impl.ErrForm), int64(impl.ErrMany), int64(impl.ErrRange)
	stores := map[string]faulty{
		"a zero object":                           {[]impl.Object{{}}, wrong},
		"data that is too long":                   {[]impl.Object{{Id: "b0000", Kind: 1, Data: long}}, many},
		"data of too many lines":                  {[]impl.Object{{Id: "b0000", Kind: 3, Data: strings.Repeat("\n", maxLines+1)}}, many},
		"a wrong kind and data that is too long":  {[]impl.Object{{Id: "b0000", Kind: 4, Data: long}}, wrong},
		"another id":                              {[]impl.Object{{Id: "b03f7", Kind: 1, Data: "a"}}, form},
		"no id":                                   {[]impl.Object{{Kind: 1, Data: "a"}}, form},
		"the id of another kind":                  {[]impl.Object{{Id: "t03f6", Kind: 1, Data: "a"}}, form},
		"an id with more behind":                  {[]impl.Object{{Id: "b03f6 ", Kind: 1, Data: "a"}}, form},
		"an id with great letters":                {[]impl.Object{{Id: "b03F6", Kind: 1, Data: "a"}}, form},
		"one twice":                               {[]impl.Object{a, a}, form},
		"one twice, between others":               {storeOf(empty, a, a, objectOf(3, "z")), form},
		"two data of one name":                    {storeOf(objectOf(1, "A\x90"), objectOf(1, "B\x0d")), form},
		"not rising":                              {[]impl.Object{a, empty}, form},
		"not rising by kind":                      {[]impl.Object{objectOf(3, ""), objectOf(1, "")}, form},
		"one that is not above comes back":        {[]impl.Object{empty, objectOf(3, ""), a}, form},
		"wrong kind behind a wrong id":            {[]impl.Object{{Id: "b0000", Kind: 1}, {Kind: 9}}, form},
		"wrong id behind a wrong kind":            {[]impl.Object{{Kind: 9}, {Id: "b0000", Kind: 1}}, wrong},
		"too long behind one twice":               {[]impl.Object{a, a, {Kind: 1, Data: long}}, form},
		"one twice behind too long":               {[]impl.Object{{Kind: 1, Data: long}, a, a}, many},
		"not rising, and of a wrong kind":         {[]impl.Object{a, {Id: "b0007", Kind: 0}}, wrong},
		"not rising, and data that is too long":   {[]impl.Object{a, {Id: "b0007", Kind: 1, Data: long}}, many},
		"too many":                                {fullStore(maxObjects+1, 3), many},
		"too many, of wrong kinds":                {make([]impl.Object, maxObjects+1), many},
		"far too many":                            {make([]impl.Object, 100000), many},
		"as many as may be, the first wrong":      {append([]impl.Object{{Kind: 1, Data: "a"}}, fullStore(maxObjects-1, 3)...), form},
		"as many as may be, the last wrong":       {append(fullStore(maxObjects-1, 3), impl.Object{Kind: 4}), wrong},
		"as many as may be, the last one not new": {append(fullStore(maxObjects-1, 3), fullStore(maxObjects-1, 3)[maxObjects-2]), form},
	}
	for _, kind := range wrongKinds {
		stores["kind "+strconv.FormatInt(kind, 10)] = faulty{[]impl.Object{empty, {Id: "b03f6", Kind: kind, Data: "a"}}, wrong}
	}
	return stores
}

// wantStoreCode: every function that is given such a store answers its code, and nothing beside it.
func wantStoreCode(t *testing.T, name string, store []impl.Object, code int64) {
	t.Helper()
	if got := impl.StoreFault(store); got != code || got != storeFaultByWords(store) {
		t.Errorf("%s: StoreFault = %d, want %d", name, got, code)
	}
	for _, kind := range slices.Concat(rightKinds, wrongKinds) {
		for _, data := range []string{"", "a", "A\x90", strings.Repeat("a", maxText+1)} {
			if r := impl.PutObject(store, kind, data); !sameStoreResult(r, impl.StoreResult{Code: code}) {
				t.Errorf("%s: PutObject of kind %d = %#v, want %d", name, kind, r, code)
			}
		}
		for _, id := range []string{"", "b03f6", "b0007", "b0000", "none"} {
			if r := impl.GetObject(store, kind, id); r != (impl.ObjectResult{Code: code}) {
				t.Errorf("%s: GetObject of kind %d = %#v, want %d", name, kind, r, code)
			}
		}
		if r := impl.IdsOf(store, kind); r.Code != code || r.Lines != nil {
			t.Errorf("%s: IdsOf kind %d = %#v, want %d", name, kind, r, code)
		}
	}
	for _, good := range [][]impl.Object{nil, {objectOf(1, "a")}, fullStore(maxObjects, 1)} {
		for _, r := range []impl.StoreResult{impl.MergeStores(store, good), impl.MergeStores(good, store)} {
			if !sameStoreResult(r, impl.StoreResult{Code: code}) {
				t.Errorf("%s: MergeStores = %#v, want %d", name, r, code)
			}
		}
	}
}

func TestStoresWithAFault(t *testing.T) {
	for name, c := range faultyStores() {
		wantStoreCode(t, name, c.store, c.code)
		for _, other := range faultyStores() {
			if r := impl.MergeStores(c.store, other.store); !sameStoreResult(r, impl.StoreResult{Code: c.code}) {
				t.Errorf("%s in both: MergeStores = %#v, want %d", name, r, c.code)
			}
		}
	}
}

func TestGetObject(t *testing.T) {
	store := storeOf(smallPool()[0], smallPool()[1], smallPool()[2], smallPool()[3], smallPool()[4], smallPool()[6])
	ids := []string{"", "b", "b03f6", "b03f6 ", "b03f6b03f6", "b03f", "b03F6", "t03f6", "c03f6", "b0007", "t0007", "c0007", "bffff", "x0007", "0007", "\x00\x00\x00\x00\x00", "b0007\x00", "\xff", strings.Repeat("b0007", 1000)}
	for _, list := range [][]impl.Object{nil, {}, store, store[:1], fullStore(maxObjects, 9)} {
		for _, id := range ids {
			for _, kind := range slices.Concat(rightKinds, wrongKinds) {
				wantGot(t, fmt.Sprintf("%d objects", len(list)), list, kind, id)
			}
		}
	}
	if r := impl.GetObject(store, impl.KindTree, "b0007"); r != (impl.ObjectResult{Code: impl.ErrNone}) {
		t.Errorf("an id that is there with another kind: %#v", r)
	}
	if r := impl.GetObject(store, 4, "none"); r != (impl.ObjectResult{Code: impl.ErrRange}) {
		t.Errorf("a wrong kind of what is not there: %#v", r)
	}
	if r := impl.GetObject(store, impl.KindTree, "t0007"); r != (impl.ObjectResult{Object: impl.Object{Id: "t0007", Kind: impl.KindTree}}) {
		t.Errorf("an object of no data: %#v", r)
	}
}

func TestIdsOf(t *testing.T) {
	full := fullStore(maxObjects, 30)
	byKind := func(kind int64) []impl.Object {
		return slices.DeleteFunc(slices.Clone(full), func(object impl.Object) bool { return object.Kind != kind })
	}
	for name, store := range map[string][]impl.Object{"nil": nil, "empty": {}, "all kinds": full, "blobs": byKind(1), "trees": byKind(2), "commits": byKind(3), "one": {objectOf(2, "x")}} {
		for _, kind := range slices.Concat(rightKinds, wrongKinds) {
			wantIds(t, name, store, kind)
		}
	}
	if r := impl.IdsOf(storeOf(objectOf(1, ""), objectOf(1, "a"), objectOf(2, ""), objectOf(3, "a")), impl.KindBlob); !slices.Equal(r.Lines, []string{"b0007", "b03f6"}) {
		t.Errorf("ids of blobs: %#v", r)
	}
}

// everyStoreOf: all stores of objects of the pool that have no fault.
func everyStoreOf(pool []impl.Object) [][]impl.Object {
	var stores [][]impl.Object
	for set := range 1 << len(pool) {
		var store []impl.Object
		for i, object := range pool {
			if set>>i&1 == 1 {
				store = append(store, object)
			}
		}
		if store = storeOf(store...); storeFaultByWords(store) == impl.OK {
			stores = append(stores, store)
		}
	}
	return stores
}

// wantBothHad asks the promise itself of two stores put together.
func wantBothHad(t *testing.T, name string, a []impl.Object, b []impl.Object, both []impl.Object) {
	t.Helper()
	if impl.StoreFault(both) != impl.OK {
		t.Errorf("%s: the two together have a fault", name)
	}
	for _, object := range slices.Concat(a, b) {
		if impl.GetObject(both, object.Kind, object.Id) != (impl.ObjectResult{Object: object}) {
			t.Errorf("%s: %q is lost", name, object.Id)
		}
	}
	for _, object := range both {
		if !slices.Contains(a, object) && !slices.Contains(b, object) {
			t.Errorf("%s: %q comes from nowhere", name, object.Id)
		}
	}
}

func TestPromise6EveryTwoSmallStores(t *testing.T) {
	stores := everyStoreOf(smallPool())
	for _, a := range stores {
		for _, b := range stores {
			name := fmt.Sprintf("%#v and %#v", a, b)
			if r := wantMergedStores(t, name, a, b); r.Code == impl.OK {
				wantBothHad(t, name, a, b, r.Store)
			}
			one, other := impl.MergeStores(a, b), impl.MergeStores(b, a)
			if !sameStoreResult(one, other) {
				t.Errorf("%s: the other way round other objects", name)
			}
		}
	}
}

func TestMergeStoresAtTheirBounds(t *testing.T) {
	all := fullStore(2*maxObjects+10, 50)
	full := slices.Clone(all[:maxObjects])
	half, rest, over := all[:maxObjects/2], all[maxObjects/2:maxObjects], all[maxObjects/2:maxObjects+1]
	if r := wantMergedStores(t, "as many as may be", half, rest); !slices.Equal(r.Store, full) {
		t.Error("as many as may be")
	}
	wantMergedStores(t, "as many as may be, the other way round", rest, half)
	for _, pair := range [][2][]impl.Object{{half, over}, {over, half}, {full, all[maxObjects : maxObjects+1]}, {all[maxObjects : maxObjects+1], full}, {full, all[maxObjects : 2*maxObjects]}} {
		if r := wantMergedStores(t, "one too many", pair[0], pair[1]); r.Code != impl.ErrMany {
			t.Errorf("one too many: %d", r.Code)
		}
	}
	for _, pair := range [][2][]impl.Object{{full, full}, {full, nil}, {nil, full}, {full, {}}, {full, half}, {half, full}, {nil, nil}, {full, full[199:]}} {
		if r := wantMergedStores(t, "nothing new", pair[0], pair[1]); r.Code != impl.OK || len(r.Store) != max(len(pair[0]), len(pair[1])) {
			t.Errorf("nothing new: %d, %d", r.Code, len(r.Store))
		}
	}
	random := rand.New(rand.NewSource(6))
	for range 40 {
		a, b := storeOf(full[:random.Intn(maxObjects)]...), all[random.Intn(maxObjects):][:random.Intn(maxObjects)]
		if r := wantMergedStores(t, "any two", a, b); r.Code == impl.OK {
			wantBothHad(t, "any two", a, b, r.Store)
		}
	}
}

func TestMergeStoresTellsWhatIsMetFirst(t *testing.T) {
	const low, high = "\x7f\x90", "\x01\x90"
	if idLow, idHigh := objectOf(2, low).Id, objectOf(2, high).Id; idLow >= idHigh {
		t.Fatal(idLow, idHigh)
	}
	blobs := slices.DeleteFunc(fullStore(3*maxObjects, 1), func(object impl.Object) bool { return object.Kind != 1 })
	with := func(data string) []impl.Object {
		return storeOf(append(slices.Clone(blobs[:maxObjects-1]), objectOf(2, data))...)
	}
	cases := []struct {
		name string
		a, b []impl.Object
		code int64
	}{
		{"a clash ahead of one too many", with(low), storeOf(objectOf(2, twin(low)), objectOf(2, high)), impl.ErrClash},
		{"a clash behind one too many", with(high), storeOf(objectOf(2, low), objectOf(2, twin(high))), impl.ErrMany},
		{"a clash behind one that is there", with(low), storeOf(blobs[5], objectOf(2, twin(low))), impl.ErrClash},
		{"a clash behind one that fills the store", with(high)[1:], storeOf(objectOf(2, low), objectOf(2, twin(high))), impl.ErrClash},
		{"one too many behind one that is there", with(high), storeOf(blobs[5], objectOf(2, low)), impl.ErrMany},
		{"one too many behind one that fills the store", with(high)[1:], storeOf(objectOf(2, low), objectOf(3, low)), impl.ErrMany},
		{"one too many ahead of one that is there", with(high), storeOf(objectOf(2, low), objectOf(2, high)), impl.ErrMany},
	}
	for _, c := range cases {
		if r := wantMergedStores(t, c.name, c.a, c.b); r.Code != c.code {
			t.Errorf("%s: %d, want %d", c.name, r.Code, c.code)
		}
	}
}

// anyStores: stores of every kind, with and without faults.
func anyStores() [][]impl.Object {
	stores := [][]impl.Object{nil, {}, {objectOf(1, "a")}, storeOf(smallPool()[:5]...), fullStore(maxObjects, 4), fullStore(maxObjects/2, 44), {objectOf(1, twin("A\x90"))}}
	names := []string{"a zero object", "another id", "two data of one name", "too many", "far too many", "as many as may be, the last wrong", "data that is too long"}
	for _, name := range names {
		stores = append(stores, faultyStores()[name].store)
	}
	return stores
}

// tellStores: what all functions of chapter 5 answer to these arguments, in words.
func tellStores(a []impl.Object, b []impl.Object, kind int64, data string, id string) string {
	return fmt.Sprintf("%#v %v %d %#v %#v %#v %#v", impl.IdOf(kind, data), impl.IsId(id), impl.StoreFault(a), impl.PutObject(a, kind, data), impl.GetObject(a, kind, id), impl.MergeStores(a, b), impl.IdsOf(a, kind))
}

func TestPromise1StoresHangOnTheArgumentsAlone(t *testing.T) {
	stores, texts := anyStores(), append(anyTexts(), "A\x90", "B\x0d", "a")
	ids := []string{"b03f6", "", "t0007", "none", "b0007", "c03f6"}
	tell := func(i int) string {
		a, b := stores[i%len(stores)], stores[(i*5+3)%len(stores)]
		return tellStores(slices.Clone(a), slices.Clone(b), int64(i%5), strings.Clone(texts[(i*3+1)%len(texts)]), strings.Clone(ids[i%len(ids)]))
	}
	answers := make([]string, 12*len(stores))
	for i := range answers {
		answers[i] = tell(i)
	}
	// Backwards each call stands behind other ones than before.
	for i := len(answers) - 1; i >= 0; i-- {
		if tell(i) != answers[i] {
			t.Errorf("round %d: another answer at the second call", i)
		}
	}
}

func TestPromise1StoresChangeNoArgument(t *testing.T) {
	behind := impl.Object{Id: "behind", Kind: 7, Data: "behind"}
	stores := anyStores()
	for i := range 12 * len(stores) {
		// What lies behind a store in its memory is not the function's either.
		a, b := append(slices.Clone(stores[i%len(stores)]), behind), append(slices.Clone(stores[(i*5+3)%len(stores)]), behind)
		keptA, keptB := slices.Clone(a), slices.Clone(b)
		tellStores(a[:len(a)-1], b[:len(b)-1], int64(i%5), "new "+strconv.Itoa(i), "b03f6")
		if !slices.Equal(a, keptA) || !slices.Equal(b, keptB) {
			t.Errorf("round %d: a store was changed, or what lies behind it", i)
		}
	}
}

func TestPromise1StoresAreNewMemory(t *testing.T) {
	shared := objectOf(1, "shared data")
	a, b := storeOf(append(fullStore(20, 1), shared)...), storeOf(append(fullStore(20, 15), shared)...)
	given := []string{"new data", "shared data"}
	for _, object := range slices.Concat(a, b) {
		given = append(given, object.Id, object.Data)
	}
	keptA, keptB := slices.Clone(a), slices.Clone(b)
	wantNew := func(name string, texts ...string) {
		t.Helper()
		for i, text := range texts {
			for _, other := range slices.Concat(given, texts[:i]) {
				if sharesBytes(text, other) {
					t.Errorf("%s: %q has memory that is not new", name, text)
				}
			}
		}
	}
	wantNewStore := func(name string, r impl.StoreResult) {
		t.Helper()
		if r.Code != impl.OK || len(r.Store) == 0 {
			t.Fatalf("%s: %#v", name, r)
		}
		texts := []string{r.Id}
		for i, object := range r.Store {
			texts = append(texts, object.Id, object.Data)
			r.Store[i] = impl.Object{}
		}
		wantNew(name, texts...)
	}
	wantNewStore("PutObject of a new one", impl.PutObject(a, 1, given[0]))
	wantNewStore("PutObject of one that is there", impl.PutObject(a, 1, given[1]))
	wantNewStore("PutObject into nothing", impl.PutObject(nil, 1, given[0]))
	wantNewStore("MergeStores", impl.MergeStores(a, b))
	wantNewStore("MergeStores with itself", impl.MergeStores(a, a))
	wantNewStore("MergeStores with nothing", impl.MergeStores(a, nil))
	wantNewStore("MergeStores of nothing", impl.MergeStores(nil, b))
	got := impl.GetObject(a, 1, shared.Id)
	wantNew("GetObject", got.Object.Id, got.Object.Data)
	for _, kind := range rightKinds {
		ids := impl.IdsOf(a, kind).Lines
		wantNew("IdsOf", slices.Clone(ids)...)
		for i := range ids {
			ids[i] = "changed"
		}
	}
	if !slices.Equal(a, keptA) || !slices.Equal(b, keptB) {
		t.Error("an answer shares its list with an argument")
	}
}
