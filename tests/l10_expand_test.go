package tests

import (
	"fmt"
	"reflect"
	"slices"
	"strconv"
	"strings"
	"sync"
	"testing"

	"loop.example/g00396/impl"
)

// meant is what a name means: a variable number n, a form, or a macro with its rules and what was seen where they stand.
type meant struct {
	kind  int
	n     int
	at    int
	rules []impl.Stx
	about *frame
}

// frame has what names of one place mean, inside of all that is about it.
type frame struct {
	about *frame
	names map[string]*meant
}

// naming tells which name is meant. See binds names as what they mean, seen in places, and what is seen there then.
type naming interface {
	see(about *frame, names []impl.Stx, as []*meant, places ...*impl.Stx) *frame
	look(about *frame, name impl.Stx) (*meant, int)
	given(x impl.Stx) impl.Stx
	brought(m *meant, template impl.Stx) impl.Stx
	made(x impl.Stx) impl.Stx
}

// byScopes does it as the chapter says it: by sets of scopes. They are kept by their names, each with its scopes as keys.
type byScopes struct {
	binds  map[string][]scoped
	scopes int
}

type scoped struct {
	scopes map[int]int
	as     *meant
}

func keysOf(set []int) map[int]int {
	keys := map[int]int{}
	for _, scope := range set {
		keys[scope]++
	}
	return keys
}

func allIn(a, b map[int]int) bool {
	for scope := range a {
		if b[scope] == 0 {
			return false
		}
	}
	return true
}

func newByScopes() naming {
	s := &byScopes{binds: map[string][]scoped{}}
	for n, name := range formNames() {
		s.binds[name] = []scoped{{as: &meant{kind: impl.BdForm, n: n}}}
	}
	return s
}

func (s *byScopes) see(about *frame, names []impl.Stx, as []*meant, places ...*impl.Stx) *frame {
	for i, name := range names {
		s.binds[name.S] = append(s.binds[name.S], scoped{keysOf(withOf(name.Set, s.scopes)), as[i]})
	}
	for _, place := range places {
		*place = turnedOf(*place, withOf, s.scopes)
	}
	s.scopes++
	return about
}

// look takes the first one of the most scopes: if any has all of the others within it, it is that one.
func (s *byScopes) look(_ *frame, name impl.Stx) (*meant, int) {
	set := keysOf(name.Set)
	var fitting []scoped
	for _, one := range s.binds[name.S] {
		if allIn(one.scopes, set) {
			fitting = append(fitting, one)
		}
	}
	if len(fitting) == 0 {
		return nil, impl.RsNone
	}
	best := fitting[0]
	for _, one := range fitting {
		if len(one.scopes) > len(best.scopes) {
			best = one
		}
	}
	for _, one := range fitting {
		if !allIn(one.scopes, best.scopes) {
			return nil, impl.RsMany
		}
	}
	return best.as, impl.RsOne
}

func (s *byScopes) given(x impl.Stx) impl.Stx {
	s.scopes++
	return turnedOf(x, flipOf, s.scopes-1)
}

func (s *byScopes) brought(_ *meant, template impl.Stx) impl.Stx { return template }

func (s *byScopes) made(x impl.Stx) impl.Stx { return turnedOf(x, flipOf, s.scopes-1) }

// byOtherNames does it without scopes: each symbol that a macro brings is another name each time, told by a number as its
// set, which means what it was made of where the macro stands, unless it is bound itself.
type byOtherNames struct {
	of    []impl.Stx
	where []*frame
	forms *frame
}

func newByOtherNames() naming {
	o := &byOtherNames{forms: &frame{names: map[string]*meant{}}}
	for n, name := range formNames() {
		o.forms.names[keyOf(wsym(name))] = &meant{kind: impl.BdForm, n: n}
	}
	return o
}

func keyOf(name impl.Stx) string {
	return name.S + fmt.Sprint(name.Set)
}

func (o *byOtherNames) see(about *frame, names []impl.Stx, as []*meant, _ ...*impl.Stx) *frame {
	inner := &frame{about: about, names: map[string]*meant{}}
	for i, name := range slices.Backward(names) {
		inner.names[keyOf(name)] = as[i]
	}
	return inner
}

func (o *byOtherNames) look(about *frame, name impl.Stx) (*meant, int) {
	for f := about; f != nil; f = f.about {
		if m := f.names[keyOf(name)]; m != nil {
			return m, impl.RsOne
		}
	}
	if len(name.Set) > 0 {
		return o.look(o.where[name.Set[0]], o.of[name.Set[0]])
	}
	if m := o.forms.names[keyOf(name)]; m != nil {
		return m, impl.RsOne
	}
	return nil, impl.RsNone
}

func (o *byOtherNames) given(x impl.Stx) impl.Stx { return x }

func (o *byOtherNames) brought(m *meant, template impl.Stx) impl.Stx {
	others := map[string]int{}
	return o.renamed(template, m.about, others)
}

func (o *byOtherNames) renamed(x impl.Stx, where *frame, others map[string]int) impl.Stx {
	out := wholeStx(x)
	if x.Op == impl.DtSym {
		n, known := others[keyOf(x)]
		if !known {
			n = len(o.of)
			others[keyOf(x)] = n
			o.of, o.where = append(o.of, x), append(o.where, where)
		}
		out.Set = []int{n}
	}
	for i, kid := range x.Kids {
		out.Kids[i] = o.renamed(kid, where, others)
	}
	return out
}

func (o *byOtherNames) made(x impl.Stx) impl.Stx { return x }

// second is another one that writes out, form by form, with names told by either.
type second struct {
	naming
	vars int
	used int
	refs []impl.Ref
}

type wentWrong int

func need(fits bool) {
	if !fits {
		panic(wentWrong(impl.ExForm))
	}
}

func expandOf(s string, names naming) (c impl.Core, refs []impl.Ref, code int) {
	defer func() {
		what := recover()
		if how, is := what.(wentWrong); is {
			c, refs, code = impl.Core{}, nil, int(how)
		} else if what != nil {
			panic(what)
		}
	}()
	list, bad := datsOf(s)
	if bad != -1 {
		panic(wentWrong(impl.ExRead))
	}
	need(len(list) > 0)
	var forms []impl.Stx
	for _, d := range list {
		forms = append(forms, stxOf(d, nil))
	}
	w := second{naming: names}
	c = w.program(nil, forms)
	if !rightCore(c) {
		panic(wentWrong(impl.ExFuel))
	}
	return c, w.refs, impl.ExDone
}

func (w *second) meaning(about *frame, name impl.Stx) *meant {
	m, how := w.look(about, name)
	switch how {
	case impl.RsNone:
		panic(wentWrong(impl.ExName))
	case impl.RsMany:
		panic(wentWrong(impl.ExMany))
	}
	return m
}

// word is the name of the form that a list is, empty of one that is none.
func (w *second) word(about *frame, x impl.Stx) (string, *meant) {
	if len(x.Kids) == 0 || x.Kids[0].Op != impl.DtSym {
		return "", nil
	}
	m := w.meaning(about, x.Kids[0])
	if m.kind == impl.BdForm {
		return formNames()[m.n], m
	}
	return "", m
}

func (w *second) variable(at int) *meant {
	w.vars++
	return &meant{kind: impl.BdVar, n: w.vars - 1, at: at}
}

func (w *second) variables(names []impl.Stx) []*meant {
	var list []*meant
	for _, name := range names {
		list = append(list, w.variable(name.At))
	}
	return list
}

func vname(m *meant) string { return "v" + strconv.Itoa(m.n) }

func needName(x impl.Stx) {
	need(x.Op == impl.DtSym && x.S != "_" && x.S != "...")
}

func needVars(names []impl.Stx) {
	need(len(names) > 0)
	for i, name := range names {
		needName(name)
		for _, other := range names[:i] {
			need(other.S != name.S || !slices.Equal(other.Set, name.Set))
		}
	}
}

func pointersTo(list []impl.Stx) []*impl.Stx {
	var out []*impl.Stx
	for i := range list {
		out = append(out, &list[i])
	}
	return out
}

func (w *second) program(about *frame, forms []impl.Stx) impl.Core {
	if len(forms) == 0 {
		return cnum(0)
	}
	x, rest := forms[0], slices.Clone(forms[1:])
	word, _ := w.word(about, x)
	switch word {
	case "define":
		need(len(x.Kids) == 3)
		if x.Kids[1].Op != impl.DtList {
			return w.defineVar(about, x.Kids[1], x.Kids[2], rest)
		}
		need(len(x.Kids[1].Kids) > 0)
		needName(x.Kids[1].Kids[0])
		needVars(x.Kids[1].Kids[1:])
		f := w.variable(x.Kids[1].Kids[0].At)
		places := append(pointersTo(rest), pointersTo(x.Kids)...)
		about = w.see(about, x.Kids[1].Kids[:1], []*meant{f}, places...)
		fun := w.function(about, x.Kids[1].Kids[1:], x.Kids[2])
		return crec(vname(f), fun.S, fun.Kids[0], w.program(about, rest))
	case "def-syntax":
		need(len(x.Kids) == 3)
		needName(x.Kids[1])
		m := &meant{kind: impl.BdMacro}
		places := append(pointersTo(rest), &x.Kids[2])
		m.about = w.see(about, x.Kids[1:2], []*meant{m}, places...)
		m.rules = rulesIn(x.Kids[2])
		return w.program(m.about, rest)
	}
	c := w.e(about, x)
	if len(rest) == 0 {
		return c
	}
	nobody := w.variable(-1)
	return clet(vname(nobody), c, w.program(about, rest))
}

func (w *second) defineVar(about *frame, name, value impl.Stx, rest []impl.Stx) impl.Core {
	needName(name)
	c := w.e(about, value)
	v := w.variable(name.At)
	about = w.see(about, []impl.Stx{name}, []*meant{v}, pointersTo(rest)...)
	return clet(vname(v), c, w.program(about, rest))
}

func rulesIn(x impl.Stx) []impl.Stx {
	need(len(x.Kids) > 1 && x.Kids[0].Op == impl.DtSym && x.Kids[0].S == "syntax-rules" && x.Kids[1].Op == impl.DtList && len(x.Kids[1].Kids) == 0)
	for _, one := range x.Kids[2:] {
		need(one.Op == impl.DtList && len(one.Kids) == 2)
		need(one.Kids[0].Op == impl.DtList && len(one.Kids[0].Kids) > 0 && rightPattern(one.Kids[0]))
	}
	return x.Kids[2:]
}

func (w *second) e(about *frame, x impl.Stx) impl.Core {
	switch x.Op {
	case impl.DtNum:
		return cnum(x.N)
	case impl.DtSym:
		m := w.meaning(about, x)
		need(m.kind == impl.BdVar)
		w.refs = append(w.refs, impl.Ref{At: x.At, To: m.at})
		return cvar(vname(m))
	}
	word, m := w.word(about, x)
	switch {
	case word != "":
		return w.form(about, word, x.Kids)
	case m != nil && m.kind == impl.BdMacro:
		return w.e(about, w.use(x, m))
	}
	need(len(x.Kids) > 1)
	c := w.e(about, x.Kids[0])
	for _, kid := range x.Kids[1:] {
		c = cop(impl.CoApp, c, w.e(about, kid))
	}
	return c
}

func (w *second) use(x impl.Stx, m *meant) impl.Stx {
	x = w.given(x)
	for _, one := range m.rules {
		got, fits := matchOf(wlist(one.Kids[0].Kids[1:]...), wlist(x.Kids[1:]...))
		if !fits {
			continue
		}
		made, filled := fillOf(w.brought(m, one.Kids[1]), got)
		if !filled {
			panic(wentWrong(impl.ExMacro))
		}
		w.used++
		if w.used > 400 {
			panic(wentWrong(impl.ExFuel))
		}
		return w.made(made)
	}
	panic(wentWrong(impl.ExMacro))
}

func (w *second) function(about *frame, names []impl.Stx, body impl.Stx) impl.Core {
	needVars(names)
	vars := w.variables(names)
	c := w.e(w.see(about, names, vars, &body), body)
	for _, v := range slices.Backward(vars) {
		c = cfun(vname(v), c)
	}
	return c
}

func pairsIn(x impl.Stx) ([]impl.Stx, []impl.Stx) {
	need(x.Op == impl.DtList)
	var names, values []impl.Stx
	for _, kid := range x.Kids {
		need(kid.Op == impl.DtList && len(kid.Kids) == 2)
		names, values = append(names, kid.Kids[0]), append(values, kid.Kids[1])
	}
	return names, values
}

func (w *second) form(about *frame, word string, kids []impl.Stx) impl.Core {
	if op := slices.Index(coreWords(), word); op >= 0 && op != impl.CoLet {
		need(len(kids) == coreArity(op)+1)
		var cores []impl.Core
		for _, kid := range kids[1:] {
			cores = append(cores, w.e(about, kid))
		}
		return cop(op, cores...)
	}
	if word == "quote" {
		need(len(kids) == 2)
		return quoteOf(kids[1])
	}
	need(len(kids) == 3)
	last := kids[2]
	switch word {
	case "lambda":
		return w.function(about, kids[1].Kids, last)
	case "let":
		names, values := pairsIn(kids[1])
		needVars(names)
		var cores []impl.Core
		for _, value := range values {
			cores = append(cores, w.e(about, value))
		}
		vars := w.variables(names)
		c := w.e(w.see(about, names, vars, &last), last)
		for i, v := range slices.Backward(vars) {
			c = clet(vname(v), cores[i], c)
		}
		return c
	case "letrec":
		names, values := pairsIn(kids[1])
		need(len(names) == 1)
		needName(names[0])
		f := w.variable(names[0].At)
		about = w.see(about, names, []*meant{f}, &values[0], &last)
		what, _ := w.word(about, values[0])
		need(what == "lambda" && len(values[0].Kids) == 3)
		fun := w.function(about, values[0].Kids[1].Kids, values[0].Kids[2])
		return crec(vname(f), fun.S, fun.Kids[0], w.e(about, last))
	case "let-syntax":
		names, rules := pairsIn(kids[1])
		var macros []*meant
		for i, name := range names {
			needName(name)
			macros = append(macros, &meant{kind: impl.BdMacro, rules: rulesIn(rules[i]), about: about})
		}
		return w.e(w.see(about, names, macros, &last), last)
	}
	panic(wentWrong(impl.ExForm))
}

func quoteOf(x impl.Stx) impl.Core {
	need(x.Op != impl.DtSym)
	if x.Op == impl.DtNum {
		return cnum(x.N)
	}
	c := cop(impl.CoNil)
	for _, kid := range slices.Backward(x.Kids) {
		c = cop(impl.CoCons, quoteOf(kid), c)
	}
	return c
}

func equalRefs(a, b []impl.Ref) bool {
	return len(a) == 0 && len(b) == 0 || reflect.DeepEqual(a, b)
}

// checkExpand holds Expand against a second one, and what it answered against what the chapter says of all that is written out.
func checkExpand(t *testing.T, s string, names naming) int {
	t.Helper()
	want, wantRefs, wantCode := expandOf(s, names)
	got, refs, code := impl.Expand(s)
	if code != wantCode || !equalCores(got, want) || !equalRefs(refs, wantRefs) {
		t.Fatalf("Expand(%q) = %s, %v, %d, not %s, %v, %d", s, coreText(got), refs, code, coreText(want), wantRefs, wantCode)
	}
	checkClosed(t, s)
	return code
}

// boundBy are all names that are bound in c.
func boundBy(c impl.Core) []string {
	var list []string
	for _, part := range partsOf(&c) {
		if part.Op == impl.CoFun || part.Op == impl.CoLet || part.Op == impl.CoRec {
			list = append(list, part.S)
		}
		if part.Op == impl.CoRec {
			list = append(list, part.T)
		}
	}
	return list
}

func varsIn(c impl.Core) []string {
	var list []string
	for _, part := range partsOf(&c) {
		if part.Op == impl.CoVar {
			list = append(list, part.S)
		}
	}
	return list
}

// symbolAt is the symbol that begins at that place, empty where none does.
func symbolAt(tokens []impl.Token, at int) string {
	for _, token := range tokens {
		if token.At == at && token.Kind == impl.TkSym {
			return token.Text
		}
	}
	return ""
}

// checkClosed is P10 as far as one program tells it: what is written out is closed, each variable is bound once, and what
// a symbol means was bound by a symbol of the same letters.
func checkClosed(t *testing.T, s string) {
	t.Helper()
	c, refs, code := impl.Expand(s)
	if code != impl.ExDone {
		if !equalCores(c, impl.Core{}) || len(refs) != 0 {
			t.Fatalf("Expand(%q) = %s, %v beside code %d", s, shown(c), refs, code)
		}
		return
	}
	if !impl.CoreOk(c) || !rightCore(c) {
		t.Fatalf("what is written out of %q is not right: %s", s, coreText(c))
	}
	bound := boundBy(c)
	numbers := map[string]int{}
	for i := range bound {
		numbers["v"+strconv.Itoa(i)] = 1
	}
	for _, name := range bound {
		numbers[name]--
	}
	for name, left := range numbers {
		if left != 0 {
			t.Fatalf("of %q a variable %s is not bound once in %s", s, name, coreText(c))
		}
	}
	checkRefs(t, s, c, refs)
}

// checkRefs: one of each CoVar, in their order, and of one variable all to where that was bound.
func checkRefs(t *testing.T, s string, c impl.Core, refs []impl.Ref) {
	t.Helper()
	vars := varsIn(c)
	if len(vars) != len(refs) {
		t.Fatalf("of %q there are %d refs of %d CoVars", s, len(refs), len(vars))
	}
	tokens, _ := impl.Tokens(s)
	boundAt := map[string]int{}
	for i, ref := range refs {
		name := symbolAt(tokens, ref.At)
		if name == "" || name != symbolAt(tokens, ref.To) {
			t.Fatalf("of %q the ref %v is none", s, ref)
		}
		if to, known := boundAt[vars[i]]; known && to != ref.To {
			t.Fatalf("of %q the refs %v of %s are not to one place", s, refs, vars[i])
		}
		boundAt[vars[i]] = ref.To
	}
}

func TestExpandConstants(t *testing.T) {
	got := []int{impl.ExDone, impl.ExRead, impl.ExName, impl.ExMany, impl.ExForm, impl.ExMacro, impl.ExFuel, impl.MaxForms}
	if !slices.Equal(got, []int{0, 1, 2, 3, 4, 5, 6, 400}) {
		t.Error(got)
	}
}

// done is a program and the core that is written out of it.
type done struct {
	text string
	core string
}

func checkDone(t *testing.T, rows []done) {
	t.Helper()
	for _, row := range rows {
		c, _, code := impl.Expand(row.text)
		if code != impl.ExDone || coreText(c) != row.core {
			t.Errorf("Expand(%q) = %s, %d, not %s", row.text, coreText(c), code, row.core)
		}
		checkClosed(t, row.text)
	}
}

func checkWrong(t *testing.T, code int, texts ...string) {
	t.Helper()
	for _, s := range texts {
		if c, refs, got := impl.Expand(s); got != code || !equalCores(c, impl.Core{}) || len(refs) != 0 {
			t.Errorf("Expand(%q) = %s, %v, %d, not code %d", s, coreText(c), refs, got, code)
		}
	}
}

func TestExpandForms(t *testing.T) {
	checkDone(t, []done{
		{"7", "7"},
		{"-1073741824", "-1073741824"},
		{" \n 0 ", "0"},
		{"(lambda (x) x)", "(fun v0 v0)"},
		{"(lambda (x y z) (x y z))", "(fun v0 (fun v1 (fun v2 (app (app v0 v1) v2))))"},
		{"(lambda (x) (lambda (y) (x y)))", "(fun v0 (fun v1 (app v0 v1)))"},
		{"(let ((x 1)) x)", "(let v0 1 v0)"},
		{"(let ((x 1) (y 2) (z 3)) (+ x (- y z)))", "(let v0 1 (let v1 2 (let v2 3 (+ v0 (- v1 v2)))))"},
		{"(letrec ((f (lambda (x) (f x)))) (f 1))", "(rec v0 v1 (app v0 v1) (app v0 1))"},
		{"(letrec ((f (lambda (x y) (f y x)))) f)", "(rec v0 v1 (fun v2 (app (app v0 v2) v1)) v0)"},
		{"(if 1 2 3)", "(if 1 2 3)"},
		{"(if (if 1 2 3) (if 4 5 6) (if 7 8 9))", "(if (if 1 2 3) (if 4 5 6) (if 7 8 9))"},
		{"(+ 1 2)", "(+ 1 2)"}, {"(- 1 2)", "(- 1 2)"}, {"(* 1 2)", "(* 1 2)"}, {"(< 1 2)", "(< 1 2)"}, {"(= 1 2)", "(= 1 2)"},
		{"(cons 1 2)", "(cons 1 2)"}, {"(car 1)", "(car 1)"}, {"(cdr 1)", "(cdr 1)"}, {"(pair? 1)", "(pair? 1)"}, {"(put 1)", "(put 1)"},
		{"(1 2)", "(app 1 2)"},
		{"(1 2 3 4)", "(app (app (app 1 2) 3) 4)"},
		{"((lambda (x) x) 1)", "(app (fun v0 v0) 1)"},
		{"((+ 1 2) (put 3) 4)", "(app (app (+ 1 2) (put 3)) 4)"},
		{"(((1 2) 3) 4)", "(app (app (app 1 2) 3) 4)"},
		{"(let-syntax () 1)", "1"},
		{"(let-syntax ((m (syntax-rules () ((_ x) x)))) (m 4))", "4"},
		{"(let-syntax ((m (syntax-rules ()))) 4)", "4"},
	})
}

func TestExpandQuote(t *testing.T) {
	checkDone(t, []done{
		{"(quote 5)", "5"},
		{"(quote -5)", "-5"},
		{"(quote ())", "()"},
		{"(quote (1))", "(cons 1 ())"},
		{"(quote (1 2 3))", "(cons 1 (cons 2 (cons 3 ())))"},
		{"(quote (()))", "(cons () ())"},
		{"(quote (() (())))", "(cons () (cons (cons () ()) ()))"},
		{"(quote (1 (2 (3)) 4))", "(cons 1 (cons (cons 2 (cons (cons 3 ()) ())) (cons 4 ())))"},
		{"(car (quote (1)))", "(car (cons 1 ()))"},
	})
	checkWrong(t, impl.ExForm, "(quote x)", "(quote (x))", "(quote (1 (2 (x))))", "(quote ((x) 1))", "(quote (quote 1))", "(quote _)", "(quote (1 ...))",
		"(quote)", "(quote 1 2)", "(quote . 1)", "(let ((x 1)) (quote x))", "(let ((x 1)) (quote (1 x)))", "(def-syntax m (syntax-rules () ((_ a) (quote a)))) (m (1 x))")
}

func TestExpandPrograms(t *testing.T) {
	checkDone(t, []done{
		{"(define x 1)", "(let v0 1 0)"},
		{"(define x 1) x", "(let v0 1 v0)"},
		{"(define x 1) (define y x) (+ x y)", "(let v0 1 (let v1 v0 (+ v0 v1)))"},
		{"(define x 1) (define x (+ x 1)) x", "(let v0 1 (let v1 (+ v0 1) v1))"},
		{"(define (f x) x)", "(rec v0 v1 v1 0)"},
		{"(define (f x) (f x)) (f 1)", "(rec v0 v1 (app v0 v1) (app v0 1))"},
		{"(define (f x y z) (f z)) f", "(rec v0 v1 (fun v2 (fun v3 (app v0 v3))) v0)"},
		{"(define (f f) f) f", "(rec v0 v1 v1 v0)"},
		{"(define (f x) x) (define (g x) (f x)) (g 2)", "(rec v0 v1 v1 (rec v2 v3 (app v0 v3) (app v2 2)))"},
		{"1 2 3", "(let v0 1 (let v1 2 3))"},
		{"(put 1) (define x 2)", "(let v0 (put 1) (let v1 2 0))"},
		{"(put 1) (def-syntax m (syntax-rules () ((_) 4)))", "(let v0 (put 1) 0)"},
		{"(def-syntax m (syntax-rules () ((_) 4)))", "0"},
		{"(def-syntax m (syntax-rules ()))", "0"},
		{"(def-syntax m (syntax-rules () ((_) 4))) (m) (m)", "(let v0 4 4)"},
		{"(define x 1) (put x) (define y 2) (put y) (- x y)", "(let v0 1 (let v1 (put v0) (let v2 2 (let v3 (put v2) (- v0 v2)))))"},
	})
	checkWrong(t, impl.ExForm, "", "   ", "\n")
}

// A variable is numbered by how many there were ahead of it: what a let is for is written out ahead of its names.
func TestExpandNumbers(t *testing.T) {
	checkDone(t, []done{
		{"(let ((x (lambda (a) a))) x)", "(let v1 (fun v0 v0) v1)"},
		{"(let ((x (lambda (a) a)) (y (lambda (b c) b))) (x y))", "(let v3 (fun v0 v0) (let v4 (fun v1 (fun v2 v1)) (app v3 v4)))"},
		{"(let ((x (let ((y (let ((z 1)) z))) y))) x)", "(let v2 (let v1 (let v0 1 v0) v1) v2)"},
		{"(define x (lambda (a) a)) x", "(let v1 (fun v0 v0) v1)"},
		{"(define x (let ((a 1) (b 2)) a)) (define y 3) y", "(let v2 (let v0 1 (let v1 2 v0)) (let v3 3 v3))"},
		{"(define (f x) (lambda (a) a)) f", "(rec v0 v1 (fun v2 v2) v0)"},
		{"(lambda (a) a) (lambda (a) a)", "(let v1 (fun v0 v0) (fun v2 v2))"},
		{"(letrec ((f (lambda (x) (lambda (y) f)))) (lambda (z) z))", "(rec v0 v1 (fun v2 v0) (fun v3 v3))"},
		{"((lambda (a) a) (lambda (a) a) (lambda (a) a))", "(app (app (fun v0 v0) (fun v1 v1)) (fun v2 v2))"},
		{"(if (lambda (a) a) (lambda (b) b) (lambda (c) c))", "(if (fun v0 v0) (fun v1 v1) (fun v2 v2))"},
		{"(let-syntax ((m (syntax-rules () ((_) (lambda (a) a))))) (cons (m) (m)))", "(cons (fun v0 v0) (fun v1 v1))"},
	})
}

// Names are bound anew by all that binds, those of forms, too.
func TestExpandShadows(t *testing.T) {
	checkDone(t, []done{
		{"(lambda (x) (lambda (x) x))", "(fun v0 (fun v1 v1))"},
		{"(lambda (x) ((lambda (x) x) x))", "(fun v0 (app (fun v1 v1) v0))"},
		{"(let ((x 1)) (let ((x x)) x))", "(let v0 1 (let v1 v0 v1))"},
		{"(let ((x 1)) (let ((x 2) (y x)) (+ x y)))", "(let v0 1 (let v1 2 (let v2 v0 (+ v1 v2))))"},
		{"(let ((x 1)) (+ (let ((x 2)) x) x))", "(let v0 1 (+ (let v1 2 v1) v0))"},
		{"(let ((f 1)) (letrec ((f (lambda (x) (f x)))) f))", "(let v0 1 (rec v1 v2 (app v1 v2) v1))"},
		{"(letrec ((f (lambda (f) f))) f)", "(rec v0 v1 v1 v0)"},
		{"(lambda (if) (if 1 2 3))", "(fun v0 (app (app (app v0 1) 2) 3))"},
		{"(lambda (lambda) lambda)", "(fun v0 v0)"},
		{"(let ((let 1)) let)", "(let v0 1 v0)"},
		{"(let ((+ 1)) (+ 2 3))", "(let v0 1 (app (app v0 2) 3))"},
		{"(let ((if (lambda (a) (if a 1 2)))) (if 3))", "(let v1 (fun v0 (if v0 1 2)) (app v1 3))"},
		{"(define define 1) (cons define 2)", "(let v0 1 (cons v0 2))"},
		{"(define def-syntax 1) (def-syntax 2 3)", "(let v0 1 (app (app v0 2) 3))"},
		{"(define (put x) x) (put 1)", "(rec v0 v1 v1 (app v0 1))"},
		{"(define (lambda x) x) (lambda 1)", "(rec v0 v1 v1 (app v0 1))"},
		{"(define quote 7) (quote 1)", "(let v0 7 (app v0 1))"},
		{"(def-syntax if (syntax-rules () ((_ a) a))) (if 5)", "5"},
		{"(def-syntax + (syntax-rules () ((_ a b) (- a b)))) (+ 1 2)", "(- 1 2)"},
		{"(let-syntax ((let (syntax-rules () ((_ a) (let ((x a)) x))))) (let 5))", "(let v0 5 v0)"},
		{"(define x 1) (def-syntax x (syntax-rules () ((_) 2))) (x)", "(let v0 1 2)"},
		{"(def-syntax x (syntax-rules () ((_) 2))) (define x 1) x", "(let v0 1 v0)"},
		{"(let-syntax ((x (syntax-rules () ((_) 2)))) (let ((x 3)) x))", "(let v0 3 v0)"},
		{"(let ((x 3)) (let-syntax ((x (syntax-rules () ((_) x)))) (x)))", "(let v0 3 v0)"},
	})
	checkWrong(t, impl.ExForm, "(lambda (lambda) (lambda))", "(let ((lambda 1)) (letrec ((f (lambda (x) x))) f))", "(letrec ((lambda (lambda (x) x))) 1)",
		"(def-syntax x (syntax-rules () ((_) 2))) x", "(let-syntax ((x (syntax-rules () ((_) 2)))) x)")
	checkWrong(t, impl.ExName, "(lambda (lambda) (lambda (x)))", "(lambda (define) (define x 1))", "(define define 1) (define x 2)", "(let ((lambda 1)) (lambda (x) x))")
}

// What fits no form is told so ahead of what is wrong in its kids.
func TestExpandWrongForms(t *testing.T) {
	checkWrong(t, impl.ExForm,
		"()", "(())", "(() ())", "(() 1)", "(1)", "((1 2))", "((lambda (x) x))", "1 ()", "(define x ()) x",
		"if", "lambda", "define", "def-syntax", "let-syntax", "(put if)", "(if 1 if 2)", "(1 quote)", "(put put)",
		"(lambda)", "(lambda (x))", "(lambda x x)", "(lambda 1 1)", "(lambda () 1)", "(lambda (1) 1)", "(lambda (x 1) x)", "(lambda ((x)) x)", "(lambda (x) x x)", "(lambda (x x) 1)", "(lambda (x y x) 1)", "(lambda ((x) x) 1)",
		"(let)", "(let ((x 1)))", "(let () 1)", "(let x 1)", "(let 1 1)", "(let (x) 1)", "(let (x 1) 1)", "(let ((x)) 1)", "(let ((x 1 2)) 1)", "(let ((1 2)) 1)", "(let (((x) 2)) 1)", "(let ((x 1)) x x)", "(let ((x 1) (x 2)) 1)", "(let ((x 1) (y 2) (x 3)) 1)", "(let ((x 1) y) 1)", "(let ((x 1) ()) 1)", "(let (1) 1)", "(let (()) 1)",
		"(letrec)", "(letrec () 1)", "(letrec ((f (lambda (x) x))))", "(letrec ((f (lambda (x) x))) f f)", "(letrec ((f 1)) f)", "(letrec ((f (lambda () 1))) f)", "(letrec ((f (lambda (x)))) f)", "(letrec ((f (lambda (x) x x))) f)", "(letrec ((f (lambda (x x) x))) f)", "(letrec ((f (lambda x x))) f)", "(letrec ((f (if 1 2 3))) f)", "(letrec ((f ())) f)", "(letrec ((f (lambda))) f)", "(letrec ((f f)) f)", "(letrec ((f (f 1))) f)", "(letrec ((f ((lambda (x) x) 1))) f)", "(letrec ((1 (lambda (x) x))) 1)", "(letrec ((f (lambda (x) x)) (g (lambda (x) x))) f)", "(letrec (f (lambda (x) x)) f)", "(letrec f f)", "(letrec ((f (lambda (x) x) 1)) f)",
		"(if)", "(if 1)", "(if 1 2)", "(if 1 2 3 4)", "(+)", "(+ 1)", "(+ 1 2 3)", "(- 1)", "(* 1)", "(< 1)", "(= 1 2 3)", "(cons 1)", "(car)", "(car 1 2)", "(cdr)", "(pair?)", "(pair? 1 2)", "(put)", "(put 1 2)",
		"(define)", "(define x)", "(define x 1 2)", "(define 1 2)", "(define () 1)", "(define (f) 1)", "(define (1 x) 1)", "(define (f 1) 1)", "(define (f x x) 1)", "(define (f x y x) 1)", "(define ((f) x) 1)", "(define (f (x)) 1)", "(define (f x))", "(define (f x) x x)", "(define (f x) 1 (put 2))",
		"(put (define x 1))", "(lambda (x) (define y x))", "(put (def-syntax m (syntax-rules ())))", "(let ((x 1)) (def-syntax m (syntax-rules ())))", "(if 1 (define x 1) 2)",
		"(def-syntax)", "(def-syntax m)", "(def-syntax m 1)", "(def-syntax m ())", "(def-syntax 1 (syntax-rules ()))", "(def-syntax (m) (syntax-rules ()))", "(def-syntax m (syntax-rules ()) 1)", "(def-syntax m (syntax-rules))", "(def-syntax m syntax-rules)", "(def-syntax m (syntax-rule ()))", "(def-syntax m (if ()))", "(def-syntax m (1 ()))", "(def-syntax m (() ()))", "(def-syntax m (syntax-rules (x)))", "(def-syntax m (syntax-rules 1))", "(def-syntax m (syntax-rules x))", "(def-syntax m (syntax-rules ((_) 1)))",
		"(def-syntax m (syntax-rules () 1))", "(def-syntax m (syntax-rules () x))", "(def-syntax m (syntax-rules () ()))", "(def-syntax m (syntax-rules () ((_))))", "(def-syntax m (syntax-rules () ((_) 1 2)))", "(def-syntax m (syntax-rules () (_ 1)))", "(def-syntax m (syntax-rules () (1 1)))", "(def-syntax m (syntax-rules () (() 1)))", "(def-syntax m (syntax-rules () ((_ x x) 1)))", "(def-syntax m (syntax-rules () ((x (x)) 1)))", "(def-syntax m (syntax-rules () ((...) 1)))", "(def-syntax m (syntax-rules () ((... x) 1)))", "(def-syntax m (syntax-rules () ((_ x ... y) 1)))", "(def-syntax m (syntax-rules () ((_ (...)) 1)))", "(def-syntax m (syntax-rules () ((_) 1) ((_ x x) 1)))", "(def-syntax m (syntax-rules () ((_) 1) 2))",
		"(let-syntax)", "(let-syntax ())", "(let-syntax () 1 2)", "(let-syntax m 1)", "(let-syntax 1 1)", "(let-syntax (m) 1)", "(let-syntax ((m)) 1)", "(let-syntax ((m 1)) 1)", "(let-syntax ((1 (syntax-rules ()))) 1)", "(let-syntax ((m (syntax-rules ()) 1)) 1)", "(let-syntax ((m (syntax-rules () (() 1)))) 1)", "(let-syntax ((m (syntax-rules ())) (k 1)) 1)",
	)
}

// No name that is bound anywhere is `_` or `...`.
func TestExpandNamesOfPatterns(t *testing.T) {
	for _, name := range []string{"_", "..."} {
		for _, form := range []string{"(lambda (%s) 1)", "(lambda (x %s) x)", "(lambda (%s x) x)", "(let ((%s 1)) 1)", "(let ((x 1) (%s 1)) x)", "(letrec ((%s (lambda (x) x))) 1)", "(letrec ((f (lambda (%s) 1))) f)", "(letrec ((f (lambda (x %s) 1))) f)",
			"(define %s 1)", "(define (%s x) 1)", "(define (f %s) 1)", "(define (f x %s) 1)", "(def-syntax %s (syntax-rules ()))", "(let-syntax ((%s (syntax-rules ()))) 1)", "(let-syntax ((m (syntax-rules ())) (%s (syntax-rules ()))) 1)"} {
			checkWrong(t, impl.ExForm, fmt.Sprintf(form, name))
		}
		checkWrong(t, impl.ExName, name, "("+name+")", "("+name+" 1)", "(put "+name+")")
	}
	checkDone(t, []done{
		{"(lambda (.. ....) ..)", "(fun v0 (fun v1 v0))"},
		{"(lambda (__ ._) ._)", "(fun v0 (fun v1 v1))"},
		{"(def-syntax m (syntax-rules () ((_ x) (lambda (x) x)))) (m y)", "(fun v0 v0)"},
	})
	checkWrong(t, impl.ExForm, "(def-syntax m (syntax-rules () ((_ x) (lambda (x) x)))) (m _)", "(def-syntax m (syntax-rules () ((_ x) (lambda (x) x)))) (m ...)", "(def-syntax m (syntax-rules () ((_ x) (lambda (x) x)))) (m 1)")
}

func TestExpandNames(t *testing.T) {
	checkWrong(t, impl.ExName,
		"x", "(x)", "(x 1)", "(1 x)", "(put x)", "(lambda (x) y)", "(let ((x x)) x)", "(let ((x 1) (y x)) y)", "(+ (let ((x 1)) x) x)", "(define x x)", "x (define x 1)", "(define (f x) x) x",
		"(letrec ((f (lambda (x) x))) x)", "(syntax-rules)", "(syntax-rules ())", "syntax-rules", "(f (lambda))", "(x (quote y))", "(put (x))", "(begin 1 2)",
		"(let-syntax ((m (syntax-rules () ((_) 1)))) 2) (m)", "(m) (def-syntax m (syntax-rules () ((_) 1)))", "(let-syntax ((m (syntax-rules () ((_) 1))) (k (syntax-rules () ((_) (m))))) (k))", "(let-syntax ((m (syntax-rules () ((_) (m))))) (m))",
		"(let-syntax ((m (syntax-rules () ((_) y)))) (let ((y 1)) (m)))", "(def-syntax m (syntax-rules () ((_) y))) (define y 1) (m)", "(def-syntax m (syntax-rules () ((_ a) a))) (m x)", "(def-syntax m (syntax-rules () ((_ a) (let ((t 1)) a)))) (m t)",
		"(def-syntax m (syntax-rules () ((k a) (k a)))) (m 1)", "(letrec ((f (g (x) x))) f)", "(letrec ((f (g))) f)",
	)
	checkDone(t, []done{
		{"(let-syntax ((m (syntax-rules () ((_) 1))) (m (syntax-rules () ((_) 2)))) (m))", "1"},
		{"(let-syntax ((m (syntax-rules () ((_) 1)))) (let-syntax ((k (syntax-rules () ((_) (m))))) (k)))", "1"},
		{"(let-syntax ((m (syntax-rules () ((_) 1)))) (let-syntax ((m (syntax-rules () ((_) (put (m)))))) (m)))", "(put 1)"},
		{"(def-syntax m (syntax-rules () ((_) 1) ((_ a) (put (m))))) (m 2)", "(put 1)"},
		{"(def-syntax m (syntax-rules () ((_) 1))) (def-syntax k (syntax-rules () ((_) (m)))) (k)", "1"},
	})
}

// A form may be given a name for what it binds beside a name of its own, so that a symbol of its own is within both.
func TestExpandMany(t *testing.T) {
	form := "(def-syntax d (syntax-rules () ((_ g) (let ((x 1)) (let-syntax ((m (syntax-rules () ((_) (let ((g 2)) %s))))) (m)))))) (d %s)"
	checkWrong(t, impl.ExMany, fmt.Sprintf(form, "x", "x"), fmt.Sprintf(form, "(x 1)", "x"), fmt.Sprintf(form, "(x)", "x"), fmt.Sprintf(form, "(put x)", "x"), fmt.Sprintf(form, "(letrec ((f (x (y) y))) f)", "x"),
		"(def-syntax m (syntax-rules () ((_ a) (let ((x 1)) (let ((a 2)) x))))) (m x)")
	checkDone(t, []done{
		{fmt.Sprintf(form, "x", "y"), "(let v0 1 (let v1 2 v0))"},
		{fmt.Sprintf(form, "g", "x"), "(let v0 1 (let v1 2 v1))"},
		{fmt.Sprintf(form, "(let ((x 3)) x)", "x"), "(let v0 1 (let v1 2 (let v2 3 v2)))"},
	})
}

// Each of these is wrong alone; of two that is told which is done first.
func TestExpandWhichIsFirst(t *testing.T) {
	macros := "(def-syntax none (syntax-rules ())) (def-syntax odd (syntax-rules () ((_ a ...) a))) (def-syntax loop (syntax-rules () ((_) (loop)))) "
	wrong := map[string]int{"x": impl.ExName, "(x)": impl.ExName, "(if)": impl.ExForm, "()": impl.ExForm, "(none)": impl.ExMacro, "(odd)": impl.ExMacro, "(loop)": impl.ExFuel}
	both := []string{"(+ %s %s)", "(if 1 %s %s)", "(if %s 2 %s)", "(%s %s)", "(1 %s %s)", "(cons (put %s) %s)", "(let ((a %s)) %s)", "(let ((a %s) (b %s)) 1)", "(letrec ((f (lambda (a) %s))) %s)", "%s %s", "(define a %s) %s", "(define a %s) (define (f a) %s)", "(define (f a) %s) %s", "(put %s) (put %s)", "(lambda (a) (- %s %s))", "(let-syntax ((m (syntax-rules ()))) (* %s %s))", "%s 1 %s", "1 %s %s"}
	for _, form := range both {
		for first, code := range wrong {
			checkWrong(t, code, macros+fmt.Sprintf(form, first, "1"), macros+fmt.Sprintf(form, first, first))
			for other := range wrong {
				if form == "(%s %s)" && first == "x" {
					continue
				}
				checkWrong(t, code, macros+fmt.Sprintf(form, first, other))
			}
		}
	}
	for kid := range wrong {
		for _, form := range []string{"(if %s 2)", "(if %s 2 3 4)", "(+ %s)", "(put %s 1)", "(let ((a %s) (a 1)) a)", "(let ((a 1) (_ %s)) a)", "(let ((a %s) b) a)", "(let ((a %s)))", "(lambda (a a) %s)", "(lambda (_) %s)", "(lambda () %s)", "(define _ %s)", "(define (f a a) %s)", "(define (_ a) %s)", "(define a %s 1)", "(letrec ((_ (lambda (a) %s))) 1)", "(letrec ((f (lambda (a a) %s))) 1)", "(letrec ((f 1)) %s)", "(letrec ((f (if 1 2 3))) %s)", "(letrec ((f (lambda (a) 1)) (g 1)) %s)", "(let-syntax ((m 1)) %s)", "(let-syntax ((_ (syntax-rules ()))) %s)", "(def-syntax m %s)", "(def-syntax m (syntax-rules () (() %s)))", "(quote a %s)", "(%s)", "((%s))"} {
			if form == "(%s)" && kid == "x" {
				continue
			}
			checkWrong(t, impl.ExForm, macros+fmt.Sprintf(form, kid))
		}
	}
	checkWrong(t, impl.ExRead, "x (", "(if", "(if) )", "(x A)", "x 01", "(", ")", "(lambda (x)", strings.Repeat("x ", 1501), strings.Repeat("(", 21)+strings.Repeat(")", 21), "x"+strings.Repeat(" ", 4000), "\t", "x\x00")
	checkWrong(t, impl.ExName, strings.Repeat("x ", 1500), "x"+strings.Repeat(" ", 3999))
	checkWrong(t, impl.ExForm, strings.Repeat("(", 20)+strings.Repeat(")", 20))
}

func TestExpandRules(t *testing.T) {
	some := "(def-syntax m (syntax-rules () ((_) 0) ((_ 1) 10) ((_ a) (put a)) ((_ (a b)) 20) ((_ a b) (cons a b)) ((_ (a b) ... ) 30) ((k a b ...) (k b ...)))) "
	checkDone(t, []done{
		{some + "(m)", "0"},
		{some + "(m 1)", "10"},
		{some + "(m 2)", "(put 2)"},
		{some + "(m (1 2))", "(put (app 1 2))"},
		{some + "(m 1 2)", "(cons 1 2)"},
		{some + "(m (x y) (x y) (x y))", "30"},
		{some + "(m (m (m)))", "(put (put 0))"},
		{"(def-syntax m (syntax-rules () ((1 a) a))) (m 2)", "2"},
		{"(def-syntax m (syntax-rules () (((x y) a) (+ a 1)))) (m 2)", "(+ 2 1)"},
		{"(def-syntax m (syntax-rules () ((_ _ a _) a))) (m x 2 (y))", "2"},
		{"(def-syntax m (syntax-rules () ((_ (a ...) ...) (1 (2 a ...) ...)))) (m (1 2) (3))", "(app (app 1 (app (app 2 1) 2)) (app 2 3))"},
		{"(def-syntax my-let (syntax-rules () ((_ ((n e) ...) b) ((lambda (n ...) b) e ...)))) (my-let ((x 1) (y 2)) (- x y))", "(app (app (fun v0 (fun v1 (- v0 v1))) 1) 2)"},
		{"(def-syntax all (syntax-rules () ((_) 1) ((_ a) a) ((_ a b ...) (if a (all b ...) 0)))) (all 1 2 3)", "(if 1 (if 2 3 0) 0)"},
		{"(def-syntax m (syntax-rules () ((_) x))) 1", "1"},
		{"(def-syntax m (syntax-rules () ((_ a) (a ... 1)))) 1", "1"},
		{"(def-syntax m (syntax-rules () ((_ a) ()) ((_ 1) 2))) 1", "1"},
	})
	checkWrong(t, impl.ExForm, some+"m", some+"(put m)", "(def-syntax m (syntax-rules () ((_ a) ()))) (m 1)", "(def-syntax m (syntax-rules () ((_ a) a))) (m m)", "(def-syntax m (syntax-rules () ((_ a) a))) (m if)",
		"(def-syntax m (syntax-rules () ((_ a) (define a 1)))) (m x)", "(def-syntax m (syntax-rules () ((_) (def-syntax k (syntax-rules ()))))) (m)", "(def-syntax m (syntax-rules () ((_ a b) (lambda (a b) 1)))) (m x x)")
	checkWrong(t, impl.ExMacro, "(def-syntax m (syntax-rules ())) (m)", "(def-syntax m (syntax-rules () ((_) 1))) (m 1)", "(def-syntax m (syntax-rules () ((_ a) 1))) (m)", "(def-syntax m (syntax-rules () ((_ 1) 1) ((_ 2) 1))) (m 3)", "(def-syntax m (syntax-rules () ((_ (a)) 1))) (m 1)",
		"(def-syntax m (syntax-rules () ((_ a) (a ... 1)))) (m 1)", "(def-syntax m (syntax-rules () ((_ a) ...))) (m 1)", "(def-syntax m (syntax-rules () ((_ a ...) a))) (m 1)", "(def-syntax m (syntax-rules () ((_ a ...) (1 (a) (... 2))))) (m 1)",
		"(def-syntax m (syntax-rules () ((_ (a ...) (b ...)) (1 (a b) ...)))) (m (1) (1 2))", "(def-syntax m (syntax-rules () ((_ a ...) a) ((_ a) a))) (m 1)", "(def-syntax m (syntax-rules () ((_ ...) 1))) (m)", "(def-syntax m (syntax-rules () ((_ ...) 1))) (m 1 2)", "(def-syntax m (syntax-rules () ((k ...) 1) ((_ a) a))) (m)",
		"(def-syntax m (syntax-rules () ((_ a) (m (a))))) (m 1)", "(def-syntax m (syntax-rules () ((_ a ...) (m a ... a ...)))) (m 1)")
}

func TestExpandScopesOfMacros(t *testing.T) {
	checkDone(t, []done{
		{"(def-syntax or2 (syntax-rules () ((_ a b) (let ((t a)) (if t t b))))) (let ((t 5)) (or2 0 t))", "(let v0 5 (let v1 0 (if v1 v1 v0)))"},
		{"(def-syntax or2 (syntax-rules () ((_ a b) (let ((t a)) (if t t b))))) (let ((if 5)) (or2 if if))", "(let v0 5 (let v1 v0 (if v1 v1 v0)))"},
		{"(def-syntax or2 (syntax-rules () ((_ a b) (let ((t a)) (if t t b))))) (lambda (let t) (or2 t (or2 let t)))", "(fun v0 (fun v1 (let v2 v1 (if v2 v2 (let v3 v0 (if v3 v3 v1))))))"},
		{"(define y 1) (def-syntax m (syntax-rules () ((_) y))) (let ((y 2)) (+ y (m)))", "(let v0 1 (let v1 2 (+ v1 v0)))"},
		{"(define y 1) (def-syntax m (syntax-rules () ((_) y))) (define y 2) (+ y (m))", "(let v0 1 (let v1 2 (+ v1 v0)))"},
		{"(lambda (y) (let-syntax ((m (syntax-rules () ((_ a) (+ a y))))) (lambda (y) (m y))))", "(fun v0 (fun v1 (+ v1 v0)))"},
		{"(def-syntax swap (syntax-rules () ((_ f a b) (let ((t a)) (f b t))))) (lambda (f t u) (swap f t u))", "(fun v0 (fun v1 (fun v2 (let v3 v1 (app (app v0 v2) v3)))))"},
		{"(def-syntax m (syntax-rules () ((_ a) (let ((a 1)) (let ((x 2)) a))))) (m x)", "(let v0 1 (let v1 2 v0))"},
		{"(def-syntax m (syntax-rules () ((_ a) (lambda (a x) (a x))))) (m x)", "(fun v0 (fun v1 (app v0 v1)))"},
		{"(def-syntax m (syntax-rules () ((_ a) (lambda (x a) (a x))))) (m x)", "(fun v0 (fun v1 (app v1 v0)))"},
		{"(def-syntax m (syntax-rules () ((_ a b) (lambda (a) b)))) (m x x)", "(fun v0 v0)"},
		{"(def-syntax m (syntax-rules () ((_ n r) (let-syntax ((n (syntax-rules () ((_ a) (+ a r))))) (n 1))))) (lambda (b) (m k b))", "(fun v0 (+ 1 v0))"},
		{"(def-syntax m (syntax-rules () ((_ a) (let ((x 1)) (k x a))))) 1", "1"},
		{"(def-syntax k (syntax-rules () ((_ a b) (let ((x 2)) (+ (+ a b) x))))) (def-syntax m (syntax-rules () ((_ a) (let ((x 1)) (k x a))))) (lambda (x) (m x))", "(fun v0 (let v1 1 (let v2 2 (+ (+ v1 v0) v2))))"},
		{"(def-syntax loop (syntax-rules () ((_ f a) (letrec ((go (lambda (n) (if n (f (go (- n 1))) 0)))) (go a))))) (lambda (go n) (loop go n))", "(fun v0 (fun v1 (rec v2 v3 (if v3 (app v0 (app v2 (- v3 1))) 0) (app v2 v1))))"},
		{"(def-syntax m (syntax-rules () ((_) (letrec ((f (lambda (x) x))) f)))) (let ((lambda 1)) (m))", "(let v0 1 (rec v1 v2 v2 v1))"},
	})
	checkWrong(t, impl.ExName, "(def-syntax m (syntax-rules () ((_ a) (let ((x 1)) (k x a))))) (def-syntax k (syntax-rules () ((_ a b) a))) (m 1)")
}

// A form's own names, those of the program, and what the program calls the form are all of one kind each: whatever they
// are, the core is the same but for its names.
func TestExpandTakesNoName(t *testing.T) {
	programs := []string{
		"(def-syntax %[3]s (syntax-rules () ((_ a b) (let ((%[1]s a)) (if %[1]s %[1]s b))))) (lambda (%[2]s) (%[3]s 0 %[2]s))",
		"(def-syntax %[3]s (syntax-rules () ((_ a b) ((lambda (%[1]s) (if %[1]s %[1]s b)) a)))) (lambda (%[2]s) (%[3]s (1 %[2]s) (%[3]s 0 %[2]s)))",
		"(def-syntax %[3]s (syntax-rules () ((_ a b) (letrec ((%[1]s (lambda (c) (%[1]s (a c))))) (%[1]s b))))) (define (%[2]s a) a) (%[3]s %[2]s 3)",
		"(let-syntax ((%[3]s (syntax-rules () ((_ a ...) (lambda (%[1]s) (a ... %[1]s)))))) (lambda (%[2]s) (%[3]s %[2]s (%[3]s %[2]s 1))))",
		"(def-syntax %[3]s (syntax-rules () ((_ a) (let ((%[1]s 1)) (let-syntax ((k (syntax-rules () ((_ b) (lambda (%[1]s) (b a %[1]s)))))) (k %[1]s)))))) (lambda (%[2]s) (%[3]s %[2]s))",
		"(define %[1]s 5) (def-syntax %[3]s (syntax-rules () ((_ a) (cons %[1]s a)))) (let ((%[2]s 6)) (%[3]s %[2]s))",
		"(define (%[1]s w) w) (let-syntax ((%[3]s (syntax-rules () ((_ a) (%[1]s a))))) (lambda (%[2]s) (%[3]s %[2]s)))",
	}
	own := []string{"t", "u", "x", "put", "car", "=", "v0", "v1", "quote", "define"}
	theirs := append(formNames(), "t", "v0", "syntax-rules")
	calls := []string{"m", "if", "let", "lambda", "+", "quote", "define", "letrec", "def-syntax", "syntax-rules", "v0"}
	for _, program := range programs {
		want, _, code := impl.Expand(fmt.Sprintf(program, "own", "theirs", "form"))
		if code != impl.ExDone {
			t.Fatalf("%q is told %d", program, code)
		}
		for _, a := range own {
			for _, b := range theirs {
				for _, c := range calls {
					if b == c || a == c || strings.Contains(program, "("+c+" ") {
						continue
					}
					s := fmt.Sprintf(program, a, b, c)
					if got, _, code := impl.Expand(s); code != impl.ExDone || !impl.Alike(got, want) {
						t.Fatalf("Expand(%q) = %s, %d, which is not like %s", s, coreText(got), code, coreText(want))
					}
					checkClosed(t, s)
				}
			}
		}
	}
}

// refsIn reads refs from names and which one of that name it is in the text, from 0 on: "x:1>x:0".
func refsIn(t *testing.T, s, told string) []impl.Ref {
	t.Helper()
	tokens, _ := tokensOf(s)
	place := func(one string) int {
		name, which, _ := strings.Cut(one, ":")
		n, err := strconv.Atoi(which)
		for _, token := range tokens {
			if token.Text == name {
				if n == 0 && err == nil {
					return token.At
				}
				n--
			}
		}
		t.Fatalf("there is no %s in %q", one, s)
		return -1
	}
	var list []impl.Ref
	for _, one := range strings.Fields(told) {
		at, to, _ := strings.Cut(one, ">")
		list = append(list, impl.Ref{At: place(at), To: place(to)})
	}
	return list
}

func TestExpandRefs(t *testing.T) {
	for _, row := range [][2]string{
		{"1", ""},
		{"(define x 1)", ""},
		{"(lambda (x) x)", "x:1>x:0"},
		{"(let ((x 1)) (let ((y x)) (+ x y)))", "x:1>x:0 x:2>x:0 y:1>y:0"},
		{"(lambda (x y) (y x y))", "y:1>y:0 x:1>x:0 y:2>y:0"},
		{"(lambda (x) (let ((x x) (y x)) (y x)))", "x:2>x:0 x:3>x:0 y:1>y:0 x:4>x:1"},
		{"(letrec ((f (lambda (x) (f x)))) (f f))", "f:1>f:0 x:1>x:0 f:2>f:0 f:3>f:0"},
		{"(define (f x) (f x)) (f 1)", "f:1>f:0 x:1>x:0 f:2>f:0"},
		{"(define x 1) (define x x) x", "x:2>x:0 x:3>x:1"},
		{"(define x 1) x (put x)", "x:1>x:0 x:2>x:0"},
		{"(def-syntax or2 (syntax-rules () ((_ a b) (let ((t a)) (if t t b))))) (lambda (t) (or2 1 t))", "t:1>t:0 t:2>t:0 t:4>t:3"},
		{"(def-syntax m (syntax-rules () ((_ a) (+ a a)))) (lambda (x) (m (m x)))", "x:1>x:0 x:1>x:0 x:1>x:0 x:1>x:0"},
		{"(define x 1) (def-syntax m (syntax-rules () ((_) x))) (let ((x 2)) (cons (m) (cons x (m))))", "x:1>x:0 x:3>x:2 x:1>x:0"},
		{"(def-syntax m (syntax-rules () ((_ a) (lambda (a) a)))) (m x)", "x:0>x:0"},
		{"(def-syntax m (syntax-rules () ((_ a b c) (let ((a b)) (c b a))))) (lambda (x f) (m y x f))", "x:1>x:0 f:1>f:0 x:1>x:0 y:0>y:0"},
	} {
		want := refsIn(t, row[0], row[1])
		if _, got, code := impl.Expand(row[0]); code != impl.ExDone || !equalRefs(got, want) {
			t.Errorf("the refs of %q are %v, %d, not %v", row[0], got, code, want)
		}
		checkExpand(t, row[0], newByScopes())
	}
}

// One use more is one too many, whether forms are in forms, beside them, or behind them.
func TestExpandMaxForms(t *testing.T) {
	down := "(def-syntax m (syntax-rules () ((_) 0) ((_ a b ...) (m b ...)))) "
	ones := func(n int) string { return "(m" + strings.Repeat(" 1", n) + ")" }
	both := "(def-syntax d (syntax-rules () ((_ a) (+ a a)))) "
	nested := func(n int, s string) string { return strings.Repeat("(d ", n) + s + strings.Repeat(")", n) }
	checkDone(t, []done{
		{down + ones(399), "0"},
		{down + ones(199) + ones(199), "(let v0 0 0)"},
		{down + "(+ " + ones(0) + ones(398) + ")", "(+ 0 0)"},
		{down + "(define x " + ones(99) + ") (define (f a) " + ones(99) + ") (let ((y " + ones(99) + ")) " + ones(99) + ")", "(let v0 0 (rec v1 v2 0 (let v3 0 0)))"},
	})
	checkWrong(t, impl.ExFuel, down+ones(400), down+ones(199)+ones(200), down+ones(200)+ones(199), down+"(+ "+ones(0)+ones(399)+")", down+"(+ "+ones(399)+ones(0)+")", down+"(lambda (x) (if x "+ones(398)+"("+ones(0)+" x)))"+ones(0))
	for n, code := range map[int]int{8: impl.ExDone, 9: impl.ExFuel} {
		if _, _, got := impl.Expand(both + nested(n, "1")); got != code {
			t.Errorf("%d forms within each other, each twice, are told %d", n, got)
		}
	}
	over := "(def-syntax m (syntax-rules () ((_ a) 0) ((_ a b ...) (m b ...)))) "
	checkWrong(t, impl.ExMacro, over+"(+ "+ones(400)+" (m))")
	checkWrong(t, impl.ExName, down+ones(398)+" x"+ones(5))
	checkWrong(t, impl.ExFuel, "(def-syntax m (syntax-rules () ((_ x) (m x)))) (m 1)", "(def-syntax m (syntax-rules () ((_) (k)))) 1 (def-syntax m (syntax-rules () ((_) (m)))) (m)", "(def-syntax m (syntax-rules () ((_) (lambda (x) (m))))) (m)", "(def-syntax m (syntax-rules () ((_ a) (let ((x a)) (m x))))) (m 1)")
}

// What is too great or too deep for a core is told last.
func TestExpandCoreLimits(t *testing.T) {
	codeOf := func(s string) int {
		checkClosed(t, s)
		_, _, code := impl.Expand(s)
		return code
	}
	many := func(s string, n int) string { return strings.Repeat(s, n) }
	deep := map[string]func(n int) string{
		"forms":     func(n int) string { return many("1 ", n) },
		"defines":   func(n int) string { return many("(define x 1)", n-1) },
		"functions": func(n int) string { return many("(define (f x) x)", n-1) },
		"a lambda":  func(n int) string { return "(lambda (" + allNames(n-1) + ") 1)" },
		"arguments": func(n int) string { return "(1" + many(" 1", n-1) + ")" },
		"a quote":   func(n int) string { return "(quote (" + many("1 ", n-1) + "))" },
	}
	for what, make := range deep {
		if codeOf(make(150)) != impl.ExDone || codeOf(make(151)) != impl.ExFuel {
			t.Errorf("%s: of 150 it is told %d, of 151 %d", what, codeOf(make(150)), codeOf(make(151)))
		}
		if codeOf(make(151)+" other") != impl.ExName || codeOf(make(151)+" (if)") != impl.ExForm {
			t.Errorf("%s: what is wrong behind it is not told", what)
		}
	}
	both := "(def-syntax d (syntax-rules () ((_ a) (+ a a)))) "
	whole := func(more string) string {
		return both + many("(d ", 8) + "(put (quote (1 1 1 1)))" + many(")", 8) + "(put (quote (" + more + many("1 ", 91) + ")))"
	}
	c, _, code := impl.Expand(whole(""))
	if code != impl.ExDone || impl.CoreSize(c) != impl.MaxCore {
		t.Error("a core of MaxCore parts is told", code, impl.CoreSize(c))
	}
	if codeOf(whole("")) != impl.ExDone || codeOf(whole("1 ")) != impl.ExFuel || codeOf(strings.Replace(whole(""), "(put (quote (1 1 1 1)))", "(quote (1 1 1 1 1))", 1)) != impl.ExFuel {
		t.Error("MaxCore parts")
	}
	if codeOf(whole("1 ")+"x") != impl.ExName {
		t.Error("what is wrong behind it is not told")
	}
}

// allNames are that many names, none twice.
func allNames(n int) string {
	var list []string
	for i := range n {
		list = append(list, "a"+strconv.Itoa(i))
	}
	return strings.Join(list, " ")
}

// All small programs, and all small macros and uses of them, are written out as by a second one.
func TestExpandSmallPrograms(t *testing.T) {
	count := map[int]int{}
	check := func(s string) {
		count[checkExpand(t, s, newByScopes())]++
	}
	textsOf := func(list []impl.Stx) string {
		var texts []string
		for _, x := range list {
			texts = append(texts, textOf(x))
		}
		return strings.Join(texts, " ")
	}
	words := func(names ...string) []impl.Stx {
		list := []impl.Stx{wnum(1)}
		for _, name := range names {
			list = append(list, wsym(name))
		}
		return list
	}
	for parts := 0; parts <= 4; parts++ {
		everyForest(words("x", "lambda", "define", "put", "quote", "_"), parts, func(list []impl.Stx) { check(textsOf(list)) })
	}
	for parts := 1; parts <= 6; parts++ {
		everyForest(words("x"), parts, func(list []impl.Stx) {
			check("(lambda " + textsOf(list) + ")")
			check("(let " + textsOf(list) + ")")
			check("(define " + textsOf(list) + ") x")
		})
	}
	for parts := 1; parts <= 4; parts++ {
		everyForest(words("f", "lambda", "x"), parts, func(list []impl.Stx) { check("(letrec ((f (" + textsOf(list) + "))) f)") })
	}
	for parts := 1; parts <= 4; parts++ {
		everyForest(words("m", "x", "_", "..."), parts, func(list []impl.Stx) { check("(let-syntax ((m (syntax-rules () (" + textsOf(list) + ")))) (m 1 2))") })
		everyForest(words("m", "x"), parts, func(list []impl.Stx) {
			check("(def-syntax m (syntax-rules () ((_ x) (lambda (x) x)) ((_ x y) (lambda (x) y)) ((_) (m 1 2)))) (m " + textsOf(list) + ")")
			check("(let-syntax " + textsOf(list) + ")")
			check("(def-syntax " + textsOf(list) + ")")
		})
	}
	if count[impl.ExDone] < 50 || count[impl.ExName] < 1000 || count[impl.ExForm] < 10000 || count[impl.ExMacro] < 100 {
		t.Error("of some there are too few:", count)
	}
}

// programMaker makes programs in which few names mean many things. Where givenToo is not, no form binds a name that it is
// given: these are what another one writes out likewise that knows of no scopes.
type programMaker struct {
	dataMaker
	givenToo bool
}

// seenName is a name that may be used: of a macro with how many it is given, and which of these are names.
type seenName struct {
	name   string
	macro  bool
	params []bool
}

var madeNames = []string{"x", "y", "t", "m", "k", "f", "g", "u", "if", "put"}

func (m *programMaker) one(list ...string) string {
	return list[m.pick(len(list))]
}

// fresh are names that may be bound where those of patterns are taken, none twice.
func (m *programMaker) fresh(n int, taken []string) []string {
	var list []string
	for len(list) < n {
		name := madeNames[m.pick(len(madeNames))]
		if m.pick(4) > 0 {
			name = madeNames[m.pick(5)]
		}
		if !slices.Contains(list, name) && !slices.Contains(taken, name) {
			list = append(list, name)
		}
	}
	return list
}

func withVars(seen []seenName, names []string) []seenName {
	seen = slices.Clone(seen)
	for _, name := range names {
		seen = append(seen, seenName{name: name})
	}
	return seen
}

// usable are those that are seen last of their name.
func usable(seen []seenName, macros bool) []seenName {
	var list []seenName
	var names []string
	for _, one := range slices.Backward(seen) {
		if !slices.Contains(names, one.name) && one.macro == macros {
			list = append(list, one)
		}
		names = append(names, one.name)
	}
	return list
}

func (m *programMaker) leaf(seen []seenName) string {
	vars := usable(seen, false)
	if len(vars) == 0 || m.pick(5) == 0 {
		return strconv.Itoa(m.pick(9))
	}
	return vars[m.pick(min(len(vars), 3+m.pick(20)))].name
}

func (m *programMaker) e(deep int, seen []seenName, taken []string) string {
	if deep == 0 || m.pick(6) == 0 {
		return m.leaf(seen)
	}
	e := func() string { return m.e(deep-1, seen, taken) }
	if macros := usable(seen, true); len(macros) > 0 && m.pick(3) == 0 {
		return m.use(macros[m.pick(len(macros))], deep, seen, taken)
	}
	switch m.pick(8) {
	case 0, 1:
		names := m.fresh(1+m.pick(2), taken)
		return "(lambda (" + strings.Join(names, " ") + ") " + m.e(deep-1, withVars(seen, names), taken) + ")"
	case 2:
		names := m.fresh(1+m.pick(2), taken)
		text := "(let ("
		for _, name := range names {
			text += "(" + name + " " + e() + ")"
		}
		return text + ") " + m.e(deep-1, withVars(seen, names), taken) + ")"
	case 3:
		name, names := m.fresh(1, taken), m.fresh(1+m.pick(2), taken)
		inner := withVars(seen, name)
		return "(letrec ((" + name[0] + " (lambda (" + strings.Join(names, " ") + ") " + m.e(deep-1, withVars(inner, names), taken) + "))) " + m.e(deep-1, inner, taken) + ")"
	case 4:
		name, rules, params := m.macro(deep-1, seen, taken)
		return "(let-syntax ((" + name + " " + rules + ")) " + m.e(deep-1, append(slices.Clone(seen), seenName{name, true, params}), taken) + ")"
	case 5:
		return "(if " + e() + " " + e() + " " + e() + ")"
	case 6:
		return "(" + m.one("+", "cons", "<") + " " + e() + " " + e() + ")"
	}
	return "(" + m.leaf(seen) + " " + e() + ")"
}

func (m *programMaker) use(macro seenName, deep int, seen []seenName, taken []string) string {
	text := "(" + macro.name
	for _, isName := range macro.params {
		if isName {
			text += " " + madeNames[m.pick(5)]
		} else {
			text += " " + m.e(deep-1, seen, taken)
		}
	}
	return text + ")"
}

// macro is a name, its rules, and what it is to be given.
func (m *programMaker) macro(deep int, seen []seenName, taken []string) (string, string, []bool) {
	name := m.fresh(1, taken)[0]
	vars := m.fresh(m.pick(3), append(slices.Clone(taken), name))
	params := make([]bool, len(vars))
	inner, within := slices.Clone(seen), slices.Clone(taken)
	for i, v := range vars {
		params[i] = m.givenToo && m.pick(3) == 0
		if !m.givenToo {
			within = append(within, v)
		}
		if !params[i] {
			inner = append(inner, seenName{name: v})
		}
	}
	template := m.e(deep, inner, within)
	for i, v := range vars {
		if params[i] {
			template = m.binding(v, deep, inner, within)
		}
	}
	head := m.one("_", name, "5")
	return name, "(syntax-rules () ((" + strings.TrimSpace(head+" "+strings.Join(vars, " ")) + ") " + template + "))", params
}

// binding binds a name that is given, some within a name of its own.
func (m *programMaker) binding(v string, deep int, seen []seenName, taken []string) string {
	own := m.fresh(1, []string{v})
	if m.pick(3) > 0 {
		return "(lambda (" + v + ") " + m.e(deep, withVars(seen, []string{v}), taken) + ")"
	}
	return "(let ((" + own[0] + " 1)) (lambda (" + v + ") " + m.e(deep, withVars(seen, []string{v, own[0]}), taken) + "))"
}

func (m *programMaker) program() string {
	var seen []seenName
	var forms []string
	for range 1 + m.pick(4) {
		switch m.pick(5) {
		case 0:
			name := m.fresh(1, nil)
			forms = append(forms, "(define "+name[0]+" "+m.e(2, seen, nil)+")")
			seen = withVars(seen, name)
		case 1:
			name, names := m.fresh(1, nil), m.fresh(1+m.pick(2), nil)
			seen = withVars(seen, name)
			forms = append(forms, "(define ("+name[0]+" "+strings.Join(names, " ")+") "+m.e(2, withVars(seen, names), nil)+")")
		case 2, 3:
			name, rules, params := m.macro(3, seen, nil)
			forms = append(forms, "(def-syntax "+name+" "+rules+")")
			seen = append(seen, seenName{name, true, params})
		default:
			forms = append(forms, m.e(2, seen, nil))
		}
	}
	return strings.Join(append(forms, m.e(4, seen, nil)), " ")
}

// What a form binds by names of its own takes nothing from what it is given, and what it brings means what it meant where
// it was written: so says one that gives another name to each symbol that is brought.
func TestExpandMadePrograms(t *testing.T) {
	m := programMaker{dataMaker: dataMaker{seed: 10}}
	count := map[int]int{}
	for range 700 {
		s := m.program()
		count[checkExpand(t, s, newByScopes())]++
		checkExpand(t, s, newByOtherNames())
	}
	if count[impl.ExDone] < 500 || count[impl.ExForm] < 5 || count[impl.ExMacro] < 5 {
		t.Error("of some there are too few:", count)
	}
}

func TestExpandMadeProgramsOfGivenNames(t *testing.T) {
	m := programMaker{dataMaker: dataMaker{seed: 100}, givenToo: true}
	count := map[int]int{}
	for range 900 {
		count[checkExpand(t, m.program(), newByScopes())]++
	}
	if count[impl.ExDone] < 500 || count[impl.ExMany] < 5 {
		t.Error("of some there are too few:", count)
	}
}

// twist is a program of which one token is another one, or is there no more, or twice.
func (m *programMaker) twist(s string) string {
	tokens, _ := tokensOf(s)
	var texts []string
	for _, token := range tokens {
		texts = append(texts, token.Text)
	}
	words := append(formNames(), madeNames...)
	words = append(words, "_", "...", "syntax-rules", "1", "()", "(1)", "(x y)", "z")
	at := m.pick(len(texts))
	for range 5 {
		if texts[at] == "(" || texts[at] == ")" {
			at = m.pick(len(texts))
		}
	}
	switch m.pick(6) {
	case 0:
		texts = slices.Delete(texts, at, at+1)
	case 1:
		texts = slices.Insert(texts, at, words[m.pick(len(words))])
	case 2:
		texts = slices.Insert(texts, at, texts[m.pick(len(texts))])
	default:
		texts[at] = words[m.pick(len(words))]
	}
	return strings.Join(texts, " ")
}

// Of programs that are wrong the same is told as by a second one.
func TestExpandTwistedPrograms(t *testing.T) {
	m := programMaker{dataMaker: dataMaker{seed: 1000}, givenToo: true}
	count := map[int]int{}
	for range 400 {
		s := m.program()
		for range 4 {
			s = m.twist(s)
			count[checkExpand(t, s, newByScopes())]++
		}
	}
	for _, code := range []int{impl.ExDone, impl.ExRead, impl.ExName, impl.ExForm, impl.ExMacro} {
		if count[code] < 20 {
			t.Error("of some there are too few:", count)
		}
	}
}

// Any text at all is answered.
func TestExpandAnyText(t *testing.T) {
	parts := []string{"(", ")", " ", "\n", "x", "lambda", "(lambda (x) x)", "1", "-", "...", "A", "\xff", "define", "(define x 1)", "let", "((x 1))", "é"}
	for seed := range uint64(3000) {
		checkExpand(t, longText(seed, parts, 14), newByScopes())
	}
}

// fewPrograms are some of which the answers have all kinds of lists.
func fewPrograms() []string {
	return []string{
		"(def-syntax d (syntax-rules () ((_ a) (cons a a)))) (define (f x y) (d (d (x y)))) (let ((z (d (quote (1 (2 3)))))) (f z (lambda (a b) (if a b z))))",
		"(define x (quote (1 2))) (def-syntax m (syntax-rules () ((_ a ...) (1 (a a) ... x)))) (put x) (m x x x)",
		"(letrec ((f (lambda (n m) (f m n)))) (f f f))",
	}
}

// allApart writes a number of its own to each place, and asks whether all of them are there then.
func allApart(places []*int) bool {
	for i, place := range places {
		*place = -1 - i
	}
	for i, place := range places {
		if *place != -1-i {
			return false
		}
	}
	return true
}

func markParts(c *impl.Core) bool {
	var places []*int
	for _, part := range partsOf(c) {
		places = append(places, &part.N)
	}
	return allApart(places)
}

func TestExpandIsNew(t *testing.T) {
	for _, s := range fewPrograms() {
		want, wantRefs, code := expandOf(s, newByScopes())
		if code != impl.ExDone {
			t.Fatalf("%q is told %d", s, code)
		}
		for range 3 {
			c, refs, _ := impl.Expand(s)
			if !equalCores(c, want) || !equalRefs(refs, wantRefs) {
				t.Fatalf("Expand(%q) is another one after one was written into", s)
			}
			if !markParts(&c) {
				t.Errorf("lists of what is written out of %q share memory", s)
			}
			for i := range refs {
				refs[i] = impl.Ref{At: -1, To: -1}
			}
			for _, part := range partsOf(&c) {
				_ = append(part.Kids, cvar("behind"))
			}
			if slices.ContainsFunc(partsOf(&c), func(part *impl.Core) bool { return part.S == "behind" }) {
				t.Errorf("lists of what is written out of %q share the room behind them", s)
			}
		}
	}
}

// Nothing is kept from one call to another, and calls beside each other do not meet.
func TestExpandKeepsNothing(t *testing.T) {
	texts := append(fewPrograms(), "x", "(define x 1) x", "(x)", "(m 1)", "(def-syntax m (syntax-rules () ((_ x) x))) (m 1)", "(def-syntax m (syntax-rules () ((_) (m)))) (m)", "(if)", "(")
	var all sync.WaitGroup
	for range 4 {
		all.Go(func() {
			for range 5 {
				for _, s := range texts {
					want, wantRefs, wantCode := expandOf(s, newByScopes())
					if c, refs, code := impl.Expand(s); code != wantCode || !equalCores(c, want) || !equalRefs(refs, wantRefs) {
						t.Errorf("Expand(%q) = %s, %v, %d", s, coreText(c), refs, code)
					}
				}
			}
		})
	}
	all.Wait()
}

// Names that are bound often, within each other and beside each other, do not make it slow.
func TestExpandManyBinds(t *testing.T) {
	names := strings.ReplaceAll(allNames(40), "a", "b")
	for _, s := range []string{
		"(def-syntax m (syntax-rules () ((_ x ...) (lambda (x ...) (0 (0 x ...) (m x ...)))))) (m " + names + ")",
		"(def-syntax m (syntax-rules () ((_) (lambda (" + names + ") (0 (0 " + names + ") (m)))))) (m)",
		"(def-syntax m (syntax-rules () ((_ x ...) (lambda (a) (0 (0 x ...) (m x ...)))))) (lambda (a) (m " + strings.Repeat("a ", 100) + "))",
	} {
		if _, _, code := impl.Expand(s); code != impl.ExFuel {
			t.Errorf("Expand(%q) tells %d", s, code)
		}
	}
}
