package tests

import (
	"math"
	"reflect"
	"slices"
	"strconv"
	"sync"
	"testing"

	"loop.example/g00396/impl"
)

func bind(name string, set ...int) impl.Bind {
	return impl.Bind{Name: name, Set: set, Kind: impl.BdVar}
}

func bindsOf(name string, sets ...[]int) []impl.Bind {
	var list []impl.Bind
	for _, set := range sets {
		list = append(list, bind(name, set...))
	}
	return list
}

// wholeBinds are the same as new memory, with no empty Set that is not nil.
func wholeBinds(list []impl.Bind) []impl.Bind {
	var out []impl.Bind
	for _, b := range list {
		b.Set = append([]int(nil), b.Set...)
		out = append(out, b)
	}
	return out
}

func equalBinds(a, b []impl.Bind) bool {
	return reflect.DeepEqual(wholeBinds(a), wholeBinds(b))
}

func mayBeMeant(b impl.Bind, name string, set []int) bool {
	return b.Name == name && withinOf(b.Set, set)
}

// resolveOf holds each that may be meant against all that may be, as the chapter says it.
func resolveOf(list []impl.Bind, name string, set []int) (int, int) {
	code := impl.RsNone
	for i, b := range list {
		if !mayBeMeant(b, name, set) {
			continue
		}
		code = impl.RsMany
		if !slices.ContainsFunc(list, func(other impl.Bind) bool {
			return mayBeMeant(other, name, set) && !withinOf(other.Set, b.Set)
		}) {
			return i, impl.RsOne
		}
	}
	return -1, code
}

func checkResolve(t *testing.T, list []impl.Bind, name string, set []int) {
	t.Helper()
	want, wantCode := resolveOf(list, name, set)
	if got, code := impl.Resolve(list, name, set); got != want || code != wantCode {
		t.Errorf("Resolve(%v, %q, %v) = %d, %d, not %d, %d", list, name, set, got, code, want, wantCode)
	}
}

func TestBindConstants(t *testing.T) {
	if impl.BdVar != 1 || impl.BdForm != 2 || impl.BdMacro != 3 || impl.RsOne != 0 || impl.RsNone != 1 || impl.RsMany != 2 {
		t.Error("a constant of the chapter is another")
	}
}

func TestResolveTable(t *testing.T) {
	none := []int(nil)
	for what, c := range map[string]struct {
		list []impl.Bind
		name string
		set  []int
		at   int
		code int
	}{
		"no list":                                     {nil, "x", []int{1}, -1, impl.RsNone},
		"an empty list":                               {[]impl.Bind{}, "x", nil, -1, impl.RsNone},
		"no bind of that name":                        {bindsOf("y", none, []int{1}), "x", []int{1}, -1, impl.RsNone},
		"a name that begins with it":                  {bindsOf("xy", none), "x", nil, -1, impl.RsNone},
		"a name that it begins with":                  {bindsOf("x", none), "xy", nil, -1, impl.RsNone},
		"a name of the other case":                    {bindsOf("X", none), "x", nil, -1, impl.RsNone},
		"none within it":                              {bindsOf("x", []int{1}, []int{2, 3}), "x", []int{2}, -1, impl.RsNone},
		"none within the empty set":                   {bindsOf("x", []int{0}, []int{1}), "x", nil, -1, impl.RsNone},
		"one with more than it":                       {bindsOf("x", []int{1, 2}), "x", []int{1}, -1, impl.RsNone},
		"one with none":                               {bindsOf("x", none), "x", nil, 0, impl.RsOne},
		"one with none, an empty set that is not nil": {bindsOf("x", []int{}), "x", []int{}, 0, impl.RsOne},
		"one with none, meant with more":              {bindsOf("x", none), "x", []int{4, 7}, 0, impl.RsOne},
		"one alone":                                   {bindsOf("x", []int{1, 2}), "x", []int{1, 2}, 0, impl.RsOne},
		"one alone, meant with more":                  {bindsOf("x", []int{2}), "x", []int{1, 2, 3}, 0, impl.RsOne},
		"one alone among other names":                 {[]impl.Bind{bind("y"), bind("z", 1), bind("x", 1), bind("y", 1)}, "x", []int{1}, 2, impl.RsOne},
		"one alone, others not within it":             {bindsOf("x", []int{1, 2}, []int{2}, []int{1}, []int{0, 1}), "x", []int{1}, 2, impl.RsOne},
		"the greatest last":                           {bindsOf("x", none, []int{1}, []int{1, 2}), "x", []int{1, 2}, 2, impl.RsOne},
		"the greatest first":                          {bindsOf("x", []int{1, 2}, []int{1}, none), "x", []int{1, 2}, 0, impl.RsOne},
		"the greatest between":                        {bindsOf("x", []int{1}, []int{1, 2}, none), "x", []int{1, 2}, 1, impl.RsOne},
		"the greatest of those within":                {bindsOf("x", none, []int{1}, []int{1, 2}), "x", []int{1, 3}, 1, impl.RsOne},
		"the greatest has two that are apart":         {bindsOf("x", []int{1}, []int{2}, []int{1, 2}), "x", []int{1, 2}, 2, impl.RsOne},
		"the greatest first, two that are apart":      {bindsOf("x", []int{1, 2}, []int{1}, []int{2}), "x", []int{1, 2, 3}, 0, impl.RsOne},
		"the greatest between two that are apart":     {bindsOf("x", []int{2}, []int{1, 2}, []int{1}), "x", []int{1, 2}, 1, impl.RsOne},
		"more of another name":                        {[]impl.Bind{bind("x", 1), bind("y", 1, 2), bind("y", 2)}, "x", []int{1, 2}, 0, impl.RsOne},
		"two apart":                                   {bindsOf("x", []int{1}, []int{2}), "x", []int{1, 2}, -1, impl.RsMany},
		"two apart, one greater in number":            {bindsOf("x", []int{1}, []int{2, 3}), "x", []int{1, 2, 3}, -1, impl.RsMany},
		"two that share one":                          {bindsOf("x", []int{1, 2}, []int{2, 3}), "x", []int{1, 2, 3}, -1, impl.RsMany},
		"two apart and what both have":                {bindsOf("x", none, []int{1}, []int{2}), "x", []int{1, 2}, -1, impl.RsMany},
		"two apart and one within both, last":         {bindsOf("x", []int{1, 2}, []int{2, 3}, []int{2}), "x", []int{1, 2, 3}, -1, impl.RsMany},
		"one has all but the last":                    {bindsOf("x", []int{1}, []int{2}, []int{1, 2}, []int{3}), "x", []int{1, 2, 3}, -1, impl.RsMany},
		"one has all but the first":                   {bindsOf("x", []int{3}, []int{1}, []int{2}, []int{1, 2}), "x", []int{1, 2, 3}, -1, impl.RsMany},
		"three, each two of them apart":               {bindsOf("x", []int{1, 2}, []int{1, 3}, []int{2, 3}), "x", []int{1, 2, 3}, -1, impl.RsMany},
		"two apart, of which one is not within":       {bindsOf("x", []int{1}, []int{2}), "x", []int{2}, 1, impl.RsOne},
		"two with the same Set":                       {bindsOf("x", []int{1}, []int{1}), "x", []int{1}, 0, impl.RsOne},
		"two with none":                               {bindsOf("x", none, none), "x", []int{1}, 0, impl.RsOne},
		"two greatest ones behind less":               {bindsOf("x", none, []int{1, 2}, []int{1}, []int{1, 2}), "x", []int{1, 2}, 1, impl.RsOne},
		"two with the same Set, and one apart":        {bindsOf("x", []int{1}, []int{1}, []int{2}), "x", []int{1, 2}, -1, impl.RsMany},
		"kinds, numbers and places are not asked":     {[]impl.Bind{{Name: "x", Kind: impl.BdMacro, N: 9, At: 80}, {Name: "x", Set: []int{1}, Kind: -4, N: -1, At: -7}, {Name: "x", Set: []int{2}}}, "x", []int{1}, 1, impl.RsOne},
		"no name":             {[]impl.Bind{bind("x"), bind(""), bind("", 1)}, "", []int{1}, 2, impl.RsOne},
		"a name that is none": {[]impl.Bind{bind("x"), bind("\xff("), bind("\xff")}, "\xff", nil, 2, impl.RsOne},
		// What is no set is answered as Within answers of it: in whatever order, however often.
		"not ascending":           {bindsOf("x", []int{2, 1}, []int{1}), "x", []int{1, 2}, 0, impl.RsOne},
		"meant with what is none": {bindsOf("x", []int{1}, []int{1, 2}), "x", []int{2, 7, 1}, 1, impl.RsOne},
		"twice in it":             {bindsOf("x", []int{1, 1}, []int{1}), "x", []int{1}, 0, impl.RsOne},
		"twice in the later one":  {bindsOf("x", []int{1}, []int{1, 1}), "x", []int{1, 1}, 0, impl.RsOne},
		"below 0":                 {bindsOf("x", []int{-1}, []int{-1, 0}), "x", []int{-1}, 0, impl.RsOne},
		"far apart":               {bindsOf("x", []int{math.MinInt}, []int{math.MaxInt}), "x", []int{math.MinInt, math.MaxInt}, -1, impl.RsMany},
		"alike in 32 bits":        {bindsOf("x", []int{1<<32 + 1}), "x", []int{1}, -1, impl.RsNone},
	} {
		if at, code := impl.Resolve(c.list, c.name, c.set); at != c.at || code != c.code {
			t.Errorf("%s: Resolve(%v, %q, %v) = %d, %d, not %d, %d", what, c.list, c.name, c.set, at, code, c.at, c.code)
		}
		checkResolve(t, c.list, c.name, c.set)
	}
}

// everyBinds are all lists of at most so many binds of these names, with Sets of numbers below 3.
func everyBinds(names []string, most int, each func([]impl.Bind)) {
	var all []impl.Bind
	everySet(3, func(set []int) {
		for _, name := range names {
			all = append(all, bind(name, set...))
		}
	})
	var grow func(list []impl.Bind)
	grow = func(list []impl.Bind) {
		each(list)
		if len(list) == most {
			return
		}
		for _, b := range all {
			grow(append(slices.Clip(list), b))
		}
	}
	grow(nil)
}

func TestResolveSmallLists(t *testing.T) {
	seen := map[int]int{}
	everyBinds([]string{"x"}, 4, func(list []impl.Bind) {
		everySet(3, func(set []int) {
			checkResolve(t, list, "x", set)
			_, code := impl.Resolve(list, "x", set)
			seen[code]++
		})
	})
	everyBinds([]string{"x", "y"}, 3, func(list []impl.Bind) {
		everySet(3, func(set []int) {
			checkResolve(t, list, "x", set)
			checkResolve(t, list, "y", set)
			checkResolve(t, list, "z", set)
		})
	})
	if len(seen) != 3 || min(seen[impl.RsOne], seen[impl.RsNone], seen[impl.RsMany]) < 3000 {
		t.Errorf("codes were seen so often: %v", seen)
	}
}

// binds are some of a few names, each with a set of its own, wrong now and then if wrong ones may be.
func (m *dataMaker) binds(most int, wrongToo bool) []impl.Bind {
	var list []impl.Bind
	for range m.pick(most + 1) {
		b := bind([]string{"x", "x", "y"}[m.pick(3)], m.set(wrongToo)...)
		b.Kind, b.N, b.At = 1+m.pick(3), m.pick(20), m.pick(90)-1
		list = append(list, b)
	}
	return list
}

func TestResolveOfMany(t *testing.T) {
	maker := dataMaker{seed: 3}
	seen := map[int]int{}
	for round := range 20000 {
		list := maker.binds(1+maker.pick(9), round%2 == 0)
		set := maker.set(round%2 == 0)
		checkResolve(t, list, "x", set)
		_, code := impl.Resolve(list, "x", set)
		seen[code]++
	}
	if len(seen) != 3 || min(seen[impl.RsOne], seen[impl.RsNone], seen[impl.RsMany]) < 500 {
		t.Errorf("codes were seen so often: %v", seen)
	}
}

// P6: of what is meant there is none of that name within the set that has more, or that it has not within it; and what is
// bound with more than all that fits is meant then, wherever it stands in the list.
func checkMoreIsMeant(t *testing.T, list []impl.Bind, name string, set []int) {
	t.Helper()
	at, code := impl.Resolve(list, name, set)
	if code == impl.RsOne {
		for i, b := range list {
			if b.Name == name && impl.Within(b.Set, set) && (!impl.Within(b.Set, list[at].Set) || i < at && impl.SameSet(b.Set, list[at].Set)) {
				t.Fatalf("%d of %v is meant by %q with %v, not %d", at, list, name, set, i)
			}
		}
	}
	more := impl.Bind{Name: name, Set: set, Kind: impl.BdVar}
	first := slices.IndexFunc(list, func(b impl.Bind) bool { return b.Name == name && impl.SameSet(b.Set, set) })
	for place := 0; place <= len(list); place++ {
		want := place
		if first >= 0 && first < place {
			want = first
		}
		longer := slices.Insert(slices.Clone(list), place, more)
		if got, code := impl.Resolve(longer, name, set); got != want || code != impl.RsOne {
			t.Fatalf("bound with all of %v at %d, %v means %d, %d by %q, not %d", set, place, longer, got, code, name, want)
		}
	}
}

func TestMoreIsMeantAheadOfLess(t *testing.T) {
	everyBinds([]string{"x"}, 3, func(list []impl.Bind) {
		everySet(3, func(set []int) { checkMoreIsMeant(t, list, "x", set) })
	})
	maker := dataMaker{seed: 8}
	for range 5000 {
		checkMoreIsMeant(t, maker.binds(1+maker.pick(9), false), "x", maker.set(false))
	}
}

// A name with more about it means no less: what was found is found still, or something with all of it, or too many.
func checkMoreAboutIt(t *testing.T, list []impl.Bind, name string, less, more []int) {
	t.Helper()
	at, code := impl.Resolve(list, name, less)
	moreAt, moreCode := impl.Resolve(list, name, more)
	wrong := code != impl.RsNone && moreCode == impl.RsNone
	if code == impl.RsOne && moreCode == impl.RsOne {
		wrong = !impl.Within(list[at].Set, list[moreAt].Set)
	}
	if wrong {
		t.Fatalf("%v mean %d, %d by %q with %v, but %d, %d with %v", list, at, code, name, less, moreAt, moreCode, more)
	}
}

func TestMoreAboutItIsNoLess(t *testing.T) {
	everyBinds([]string{"x"}, 3, func(list []impl.Bind) {
		everySet(3, func(less []int) {
			everySet(3, func(more []int) {
				if withinOf(less, more) {
					checkMoreAboutIt(t, list, "x", less, more)
				}
			})
		})
	})
	maker := dataMaker{seed: 5}
	for range 5000 {
		list, less := maker.binds(1+maker.pick(9), false), maker.set(false)
		for n := range 6 {
			checkMoreAboutIt(t, list, "x", less, impl.With(less, n))
		}
	}
}

// Each with one more than the one ahead of it: a name with the first so many means the one with all of these.
func TestResolveNested(t *testing.T) {
	const size = 60
	all := longSet(4, size)
	list := impl.FormBinds()
	forms := len(list)
	for n := range size + 1 {
		list = append(list, bind("if", all[:n]...), bind("else", all[:n]...))
	}
	for n := range size + 1 {
		want := forms + 2*n
		if n == 0 {
			want = 3
		}
		if at, code := impl.Resolve(list, "if", all[:n]); at != want || code != impl.RsOne {
			t.Errorf("with %d scopes %d is meant, %d", n, at, code)
		}
		if at, code := impl.Resolve(list, "else", impl.With(all[:n], all[size-1]+1)); at != forms+2*n+1 || code != impl.RsOne {
			t.Errorf("with %d scopes and another one %d is meant, %d", n, at, code)
		}
	}
}

func TestResolveFarIn(t *testing.T) {
	const size = 300000
	list := make([]impl.Bind, size)
	for i := range list {
		list[i] = bind("x", i)
	}
	for _, at := range []int{0, 1, size / 2, size - 1} {
		if got, code := impl.Resolve(list, "x", []int{at}); got != at || code != impl.RsOne {
			t.Errorf("%d of a long list is told as %d, %d", at, got, code)
		}
	}
	if at, code := impl.Resolve(list, "x", []int{0, size - 1}); at != -1 || code != impl.RsMany {
		t.Errorf("two of a long list are told as %d, %d", at, code)
	}
	for i := range list {
		list[i].Set = []int{i % 3}
	}
	if at, code := impl.Resolve(list, "x", []int{0, 1, 2}); at != -1 || code != impl.RsMany {
		t.Errorf("a long list without a greatest one is told as %d, %d", at, code)
	}
	list[size-2].Set = []int{0, 1, 2}
	if at, code := impl.Resolve(list, "x", []int{0, 1, 2}); at != size-2 || code != impl.RsOne {
		t.Errorf("a long list is told as %d, %d", at, code)
	}
	set := longSet(6, 100000)
	if at, code := impl.Resolve(bindsOf("x", set[1:], set, set), "x", set); at != 1 || code != impl.RsOne {
		t.Errorf("long sets are told as %d, %d", at, code)
	}
}

func TestBoundTable(t *testing.T) {
	list, number := wlist(wsym("x", 1)), wnum(1)
	for _, c := range []struct {
		a, b impl.Stx
		want bool
	}{
		{wsym("x"), wsym("x"), true}, {wsym("x", 1), wsym("x", 1), true}, {wsym("x", 2, 5), wsym("x", 2, 5), true}, {wsym("...", 0), wsym("...", 0), true},
		{wat(3, wsym("x", 1)), wat(8, wsym("x", 1)), true}, {impl.Stx{Op: impl.DtSym, S: "x"}, impl.Stx{Op: impl.DtSym, S: "x", Set: []int{}, Kids: []impl.Stx{}}, true},
		{wsym("x"), wsym("y"), false}, {wsym("x", 1), wsym("y", 1), false}, {wsym("x"), wsym("xx"), false}, {wsym("x"), wsym("X"), false}, {wsym("x", 1), wsym("", 1), false},
		{wsym("x"), wsym("x", 0), false}, {wsym("x", 1), wsym("x", 2), false}, {wsym("x", 1), wsym("x", 1, 2), false}, {wsym("x", 2), wsym("x", 1, 2), false}, {wsym("x", 1, 2), wsym("x", 1, 3), false},
		{wsym("x", 1), list, false}, {wsym("x", 1), number, false}, {wsym("x"), wlist(), false}, {list, list, false}, {number, number, false}, {wlist(), wlist(), false}, {list, number, false}, {wlist(wsym("x")), wlist(wsym("x")), false},
		// What is wrong: only the kind, the name and the set are asked, and a set one by one as it stands.
		{wsym(""), wsym(""), true}, {wsym("\xff"), wsym("\xff"), true}, {wsym("\xff"), wsym("\xfe"), false}, {wsym("x", 2, 1), wsym("x", 2, 1), true}, {wsym("x", 2, 1), wsym("x", 1, 2), false}, {wsym("x", 1, 1), wsym("x", 1), false}, {wsym("x", -1), wsym("x", -1), true},
		{impl.Stx{Op: impl.DtSym, At: -4, N: 7, S: "x", Kids: []impl.Stx{number}}, wsym("x"), true},
		{impl.Stx{}, impl.Stx{}, false}, {impl.Stx{S: "x"}, impl.Stx{S: "x"}, false}, {impl.Stx{S: "x"}, wsym("x"), false}, {impl.Stx{Op: 4, S: "x"}, impl.Stx{Op: 4, S: "x"}, false}, {impl.Stx{Op: -2, S: "x"}, wsym("x"), false}, {impl.Stx{Op: 1<<32 + 2, S: "x"}, wsym("x"), false},
		{impl.Stx{Op: impl.DtList, S: "x", Set: []int{1}}, wsym("x", 1), false}, {impl.Stx{Op: impl.DtNum, S: "x", Set: []int{1}}, wsym("x", 1), false}, {impl.Stx{Op: impl.DtList, S: "x", Set: []int{1}}, impl.Stx{Op: impl.DtList, S: "x", Set: []int{1}}, false},
	} {
		if got, turned := impl.Bound(c.a, c.b), impl.Bound(c.b, c.a); got != c.want || turned != c.want {
			t.Errorf("Bound(%v, %v) is %v, turned round %v", c.a, c.b, got, turned)
		}
	}
}

func TestBoundOfMany(t *testing.T) {
	maker := dataMaker{seed: 12}
	var list []impl.Stx
	for _, name := range []string{"x", "y", "xy", ""} {
		everySet(3, func(set []int) {
			for op := range 5 {
				list = append(list, impl.Stx{Op: op, At: maker.pick(9), N: maker.pick(3), S: name, Set: set})
			}
		})
	}
	for range 60 {
		list = append(list, maker.stx(2, true))
	}
	for _, a := range list {
		for _, b := range list {
			want := a.Op == impl.DtSym && b.Op == impl.DtSym && a.S == b.S && slices.Equal(a.Set, b.Set)
			if got := impl.Bound(a, b); got != want {
				t.Fatalf("Bound(%v, %v) is %v", a, b, got)
			}
		}
	}
}

// Two symbols of one text are bound alike until one of them alone carries more.
func TestBoundWrittenSymbols(t *testing.T) {
	x := written(t, "(a b a)", 2)
	a, b, again := x.Kids[0], x.Kids[1], x.Kids[2]
	if !impl.Bound(a, again) || impl.Bound(a, b) || impl.Bound(a, x) || impl.Bound(x, x) {
		t.Error("symbols of a text are bound otherwise")
	}
	if impl.Bound(a, impl.FlipAll(again, 3)) || !impl.Bound(impl.FlipAll(a, 3), impl.WithAll(again, 3)) || !impl.Bound(a, impl.FlipAll(impl.FlipAll(again, 3), 3)) || impl.Bound(a, impl.FlipAll(again, 2)) {
		t.Error("flipped symbols are bound otherwise")
	}
}

// What is handed to Bound may hold itself; its kids are not asked.
func TestBoundEnds(t *testing.T) {
	round := make([]impl.Stx, 1)
	round[0] = wlist(round...)
	deep := withinStx(wsym("x"), 300000)
	if impl.Bound(round[0], round[0]) || impl.Bound(deep, deep) || !impl.Bound(impl.Stx{Op: impl.DtSym, Kids: round}, impl.Stx{Op: impl.DtSym}) {
		t.Error("Bound asks for kids")
	}
}

func formNames() []string {
	return []string{"lambda", "let", "letrec", "if", "quote", "let-syntax", "+", "-", "*", "<", "=", "cons", "car", "cdr", "pair?", "put", "define", "def-syntax"}
}

func TestFormsOrder(t *testing.T) {
	for range 50 {
		if got := impl.Forms(); !slices.Equal(got, formNames()) {
			t.Fatalf("Forms() = %q", got)
		}
	}
	for _, name := range impl.Forms() {
		if !impl.SymOk(name) {
			t.Errorf("the form %q is no symbol", name)
		}
	}
}

func TestFormBindsTable(t *testing.T) {
	got := impl.FormBinds()
	if len(got) != len(formNames()) {
		t.Fatalf("FormBinds has %d", len(got))
	}
	for n, name := range formNames() {
		if b := got[n]; b.Name != name || len(b.Set) != 0 || b.Kind != impl.BdForm || b.N != n || b.At != -1 {
			t.Errorf("the form %d is bound as %v", n, b)
		}
		for _, set := range [][]int{nil, {0}, {3, 9, 70}, {-1}} {
			if at, code := impl.Resolve(got, name, set); at != n || code != impl.RsOne {
				t.Errorf("%q with %v means %d, %d", name, set, at, code)
			}
		}
	}
	for _, name := range []string{"", "else", "lambd", "lambdas", "Let", "syntax-rules", "_", "...", ">", "x"} {
		if at, code := impl.Resolve(got, name, []int{1}); at != -1 || code != impl.RsNone {
			t.Errorf("%q means %d, %d", name, at, code)
		}
	}
}

// A form is meant where its name is not bound again, and what is bound where it is.
func TestFormsBoundAgain(t *testing.T) {
	list := impl.FormBinds()
	forms := len(list)
	for n, name := range impl.Forms() {
		list = append(list, impl.Bind{Name: name, Set: []int{n, n + 1}, Kind: impl.BdVar, N: n, At: 10 * n})
	}
	for n, name := range impl.Forms() {
		for _, c := range []struct {
			set  []int
			want int
		}{{nil, n}, {[]int{n}, n}, {[]int{n + 1}, n}, {[]int{n + 1, n + 2}, n}, {[]int{n, n + 1}, forms + n}, {[]int{n, n + 1, n + 2}, forms + n}} {
			if at, code := impl.Resolve(list, name, c.set); at != c.want || code != impl.RsOne {
				t.Errorf("%q with %v means %d, %d", name, c.set, at, code)
			}
		}
	}
}

func TestFormsAskedAtOnce(t *testing.T) {
	var wait sync.WaitGroup
	wrong := make([]bool, 32)
	for i := range wrong {
		wait.Go(func() {
			wrong[i] = !slices.Equal(impl.Forms(), formNames()) || len(impl.FormBinds()) != len(formNames())
		})
	}
	wait.Wait()
	if slices.Contains(wrong, true) {
		t.Error("asked at once, forms are others")
	}
}

// roomyBinds is a copy of list with other numbers and binds in the spare room behind it, and behind each Set.
func roomyBinds(list []impl.Bind) []impl.Bind {
	out := make([]impl.Bind, 0, len(list)+3)
	for _, b := range list {
		b.Set = roomy(b.Set)
		out = append(out, b)
	}
	for i := len(out); i < cap(out); i++ {
		out[:cap(out)][i] = impl.Bind{Name: "spare" + strconv.Itoa(i), Set: roomy([]int{i})}
	}
	return out
}

// widenedBinds is list with its spare room, and that of each Set, as if they belonged to it.
func widenedBinds(list []impl.Bind) []impl.Bind {
	var out []impl.Bind
	for _, b := range list[:cap(list)] {
		b.Set = allOf(b.Set)
		out = append(out, b)
	}
	return out
}

func TestBindsAreNotWritten(t *testing.T) {
	maker := dataMaker{seed: 11}
	for round := range 500 {
		plain, set := maker.binds(8, round%2 == 0), maker.set(round%2 == 0)
		one, two := maker.stx(3, true), wsym("x", set...)
		list, about, a, b := roomyBinds(plain), roomy(set), roomyStx(one), roomyStx(two)
		for _, name := range []string{"x", "y", "z"} {
			impl.Resolve(list, name, about)
			impl.Resolve(list[:len(list)/2], name, about)
			impl.Resolve(list, name, about[:len(about)/2])
		}
		impl.Bound(a, b)
		impl.Bound(b, a)
		impl.Bound(b, b)
		if !equalBinds(widenedBinds(list), widenedBinds(roomyBinds(plain))) || !slices.Equal(allOf(about), allOf(roomy(set))) {
			t.Fatalf("an argument of Resolve was written into: %v, %v", widenedBinds(list), allOf(about))
		}
		if !equalStx(widened(a), widened(roomyStx(one))) || !equalStx(widened(b), widened(roomyStx(two))) {
			t.Fatalf("an argument of Bound was written into: %v, %v", widened(a), widened(b))
		}
	}
}

// What one call answered may be written into and grown, and what the next one answers is as ever.
func TestFormsAreNew(t *testing.T) {
	wantNames, wantBinds := formNames(), wholeBinds(impl.FormBinds())
	names, binds := impl.Forms(), impl.FormBinds()
	for i := range names[:cap(names)] {
		names[:cap(names)][i] = "?"
	}
	for i := range binds[:cap(binds)] {
		b := &binds[:cap(binds)][i]
		b.Set = append(b.Set, 7)
		for j := range allOf(b.Set) {
			allOf(b.Set)[j] = -77
		}
		b.Name, b.Kind, b.N, b.At = "?", 0, -1, 4
	}
	if got := impl.Forms(); !slices.Equal(got, wantNames) {
		t.Errorf("Forms() has become %q", got)
	}
	if got := impl.FormBinds(); !equalBinds(got, wantBinds) {
		t.Errorf("FormBinds() has become %v", got)
	}
	kept := impl.Forms()
	impl.Forms()[0] = "?"
	if !slices.Equal(kept, wantNames) {
		t.Errorf("what Forms answered changes with what it answers later: %q", kept)
	}
	keptBinds := impl.FormBinds()
	impl.FormBinds()[0] = impl.Bind{}
	if !equalBinds(keptBinds, wantBinds) {
		t.Errorf("what FormBinds answered changes with what it answers later: %v", keptBinds)
	}
}

// Sets of one answer are apart: one that is grown and written into is not seen in another.
func TestFormSetsAreApart(t *testing.T) {
	list := impl.FormBinds()
	for i := range list {
		list[i].Set = append(list[i].Set, i)
	}
	for i, b := range list {
		if !slices.Equal(b.Set, []int{i}) {
			t.Errorf("the set of form %d shares memory: %v", i, b.Set)
		}
	}
}

// What was answered once is answered again, whatever else was asked between.
func TestBindsKeepNothing(t *testing.T) {
	maker := dataMaker{seed: 13}
	list, set := bindsOf("if", []int{1}, []int{2}, []int{1, 2}), []int{1, 2}
	for range 200 {
		impl.Resolve(maker.binds(8, true), "if", maker.set(true))
		impl.Resolve(impl.FormBinds(), "if", set)
		impl.Bound(maker.stx(2, true), wsym("if", 1))
		if at, code := impl.Resolve(list, "if", set); at != 2 || code != impl.RsOne {
			t.Fatalf("asked again Resolve answers %d, %d", at, code)
		}
	}
}
