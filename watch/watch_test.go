package watch_test

import (
	"maps"
	"math"
	"reflect"
	"slices"
	"testing"

	"almadraba/api"
	"almadraba/watch"
)

func word(time, chamber, low, high int) api.CountWord {
	return api.CountWord{Time: time, Chamber: chamber, Low: low, High: high}
}

func span(low, high int) api.Span { return api.Span{Low: low, High: high} }

// bookB is B of the chapter's examples.
func bookB() api.WatchBook {
	return api.WatchBook{
		Trap: api.CountTrap{
			Chambers: 1, Times: 4, Open: [][]int{{0}, {0}, {0}},
			Words: []api.CountWord{word(0, 0, 5, 6), word(1, 0, 2, 3), word(2, 0, 7, 9), word(3, 0, 4, 4)},
		},
		Drunk: 2, Run: 1, Sober: []int{2},
	}
}

// bookC is C of the chapter's examples.
func bookC() api.WatchBook { return bookWith(func(b *api.WatchBook) { b.Sober = nil }) }

// bookWith is B with something changed.
func bookWith(change func(b *api.WatchBook)) api.WatchBook {
	b := bookB()
	change(&b)
	return b
}

// shut is a trap of one chamber, whose door is never open, in which just so many fish were counted, at one time after the other.
func shut(fish ...int) api.WatchBook {
	b := api.WatchBook{Trap: api.CountTrap{Chambers: 1, Times: len(fish), Open: make([][]int, len(fish)-1)}, Drunk: 5, Run: 5}
	for time, n := range fish {
		b.Trap.Words = append(b.Trap.Words, word(time, 0, n, n))
	}
	return b
}

// also is a book with words more.
func also(b api.WatchBook, words ...api.CountWord) api.WatchBook {
	b.Trap.Words = slices.Concat(b.Trap.Words, words)
	return b
}

// drinking is a book with other limits of how often the watchman was drunk, and with times at which he was sober.
func drinking(b api.WatchBook, drunk, run int, sober ...int) api.WatchBook {
	b.Drunk, b.Run, b.Sober = drunk, run, sober
	return b
}

// two is a book of two chambers.
func two() api.WatchBook {
	return api.WatchBook{
		Trap: api.CountTrap{
			Chambers: 2, Times: 3, Open: [][]int{{1}, {0, 1}},
			Words: []api.CountWord{word(0, 0, 8, 9), word(0, 1, 1, 2), word(1, 0, 3, 4), word(1, 1, 12, 20), word(2, 1, 5, 6), word(2, 0, 0, 5)},
		},
		Drunk: 1, Run: 1,
	}
}

// largest is a book with as much of everything as there can be.
func largest() api.WatchBook {
	b := api.WatchBook{Trap: api.CountTrap{Chambers: 4, Times: 5, Open: slices.Repeat([][]int{{0, 1, 2, 3}}, 4)}, Drunk: 5, Run: 5}
	for n := range 8 {
		b.Trap.Words = append(b.Trap.Words, word(n%5, n%4, 40-n, 40))
	}
	return b
}

// args is one of each kind of argument beside a book.
type args struct {
	guess                         []int
	time, word, chamber, from, to int
}

// fitting are arguments that fit each book with a word.
func fitting() args { return args{guess: []int{0}} }

// argsWith are these with something changed.
func argsWith(change func(a *args)) args {
	a := fitting()
	change(&a)
	return a
}

// answer is what a call returned.
type answer struct {
	name   string
	result any
	e      api.Errno
}

// callAll calls each function but Check.
func callAll(b api.WatchBook, a args) []answer {
	good, e0 := watch.Good(b, a.guess)
	stories, e1 := watch.Stories(b)
	least, e2 := watch.Least(b)
	drunk, e3 := watch.Drunk(b, a.time)
	must, e4 := watch.Must(b)
	ask, e5 := watch.Ask(b)
	lies, e6 := watch.Lies(b, a.word)
	fewest, e7 := watch.False(b)
	blame, e8 := watch.Blame(b)
	fish, e9 := watch.Fish(b, a.time, a.chamber)
	came, e10 := watch.Came(b, a.from, a.to)
	return []answer{
		{"Good", good, e0}, {"Stories", stories, e1}, {"Least", least, e2}, {"Drunk", drunk, e3}, {"Must", must, e4}, {"Ask", ask, e5},
		{"Lies", lies, e6}, {"False", fewest, e7}, {"Blame", blame, e8}, {"Fish", fish, e9}, {"Came", came, e10},
	}
}

// isZero reports whether a result is a zero value, or an empty list.
func isZero(result any) bool {
	v := reflect.ValueOf(result)
	return v.IsZero() || v.Kind() == reflect.Slice && v.Len() == 0
}

// errors checks that each call by a name returns nothing but its error, and that all others return none.
func errors(t *testing.T, b api.WatchBook, a args, want map[string]api.Errno) {
	t.Helper()
	for _, got := range callAll(b, a) {
		if got.e != want[got.name] || got.e != api.OK && !isZero(got.result) {
			t.Errorf("%v: %s with %v = %v, %d, not the error %d", b, got.name, a, got.result, got.e, want[got.name])
		}
	}
}

// all has an error for each function but Check.
func all(e api.Errno) map[string]api.Errno {
	want := map[string]api.Errno{}
	for _, got := range callAll(bookB(), fitting()) {
		want[got.name] = e
	}
	return want
}

// of has an error for some functions.
func of(e api.Errno, names ...string) map[string]api.Errno {
	want := map[string]api.Errno{}
	for _, name := range names {
		want[name] = e
	}
	return want
}

// untold has ErrNone for each function that has it if there is no story, but nothing for a book with one.
func untold(b api.WatchBook) map[string]api.Errno {
	if many, _ := watch.Stories(b); many > 0 {
		return nil
	}
	return both(all(api.ErrNone), of(api.OK, "Good", "Stories"))
}

// both has the errors of two; if each has one for a function, that of the second one.
func both(a, b map[string]api.Errno) map[string]api.Errno {
	want := map[string]api.Errno{}
	maps.Copy(want, a)
	maps.Copy(want, b)
	return want
}

// same checks what was returned.
func same[T any](t *testing.T, b api.WatchBook, name string, got T, e api.Errno, want T) {
	t.Helper()
	if e != api.OK || !reflect.DeepEqual(got, want) && !(isZero(got) && isZero(want)) {
		t.Errorf("%v: %s = %v, %d, not %v", b, name, got, e, want)
	}
}

// none is what is wanted if there is ErrNone.
const none = -1

// good checks what Good returns.
func good(t *testing.T, b api.WatchBook, want bool, guess ...int) {
	t.Helper()
	got, e := watch.Good(b, guess)
	same(t, b, "Good", got, e, want)
}

// stories checks what Stories returns, and Good of all lists of times: the stories are these.
func stories(t *testing.T, b api.WatchBook, want ...[]int) {
	t.Helper()
	got, e := watch.Stories(b)
	same(t, b, "Stories", got, e, len(want))
	for _, guess := range guesses(b) {
		good(t, b, slices.ContainsFunc(want, func(l []int) bool { return slices.Equal(l, guess) }), guess...)
	}
}

// least checks what Least returns.
func least(t *testing.T, b api.WatchBook, want ...int) {
	t.Helper()
	got, e := watch.Least(b)
	same(t, b, "Least", got, e, want)
}

// drunk checks what Drunk returns of all times, one after the other.
func drunk(t *testing.T, b api.WatchBook, want ...int) {
	t.Helper()
	for time := range b.Trap.Times {
		got, e := watch.Drunk(b, time)
		same(t, b, "Drunk", got, e, want[time])
	}
}

// must checks what Must returns.
func must(t *testing.T, b api.WatchBook, want ...int) {
	t.Helper()
	got, e := watch.Must(b)
	same(t, b, "Must", got, e, want)
}

// ask checks what Ask returns, or that it is ErrNone.
func ask(t *testing.T, b api.WatchBook, want int) {
	t.Helper()
	got, e := watch.Ask(b)
	if want != none {
		same(t, b, "Ask", got, e, want)
	} else if got != 0 || e != api.ErrNone {
		t.Errorf("%v: Ask = %d, %d, not ErrNone", b, got, e)
	}
}

// lies checks what Lies returns of all words, one after the other.
func lies(t *testing.T, b api.WatchBook, want ...int) {
	t.Helper()
	for word := range b.Trap.Words {
		got, e := watch.Lies(b, word)
		same(t, b, "Lies", got, e, want[word])
	}
}

// blame checks what Blame and False return.
func blame(t *testing.T, b api.WatchBook, want ...int) {
	t.Helper()
	got, e := watch.Blame(b)
	same(t, b, "Blame", got, e, want)
	fewest, e := watch.False(b)
	same(t, b, "False", fewest, e, len(want))
}

// fish checks what Fish returns.
func fish(t *testing.T, b api.WatchBook, time, chamber int, want api.Span) {
	t.Helper()
	got, e := watch.Fish(b, time, chamber)
	same(t, b, "Fish", got, e, want)
}

// came checks what Came returns.
func came(t *testing.T, b api.WatchBook, from, to int, want api.Span) {
	t.Helper()
	got, e := watch.Came(b, from, to)
	same(t, b, "Came", got, e, want)
}

const (
	surely  = api.Surely
	never   = api.Never
	perhaps = api.Perhaps
)

// The examples of the chapter, and the one of the document.
func TestExamples(t *testing.T) {
	b, c := bookB(), bookC()
	stories(t, b, []int{0, 3}, []int{1, 3})
	least(t, b, 0, 3)
	must(t, b, 3)
	drunk(t, b, perhaps, perhaps, never, surely)
	ask(t, b, 0)
	lies(t, b, perhaps, perhaps, never, surely)
	blame(t, b, 0, 3)
	fish(t, b, 0, 0, span(0, 6))
	fish(t, b, 1, 0, span(2, 9))
	fish(t, b, 3, 0, span(7, 40))
	came(t, b, 0, 3, span(1, 40))
	stories(t, c, []int{0, 3}, []int{1, 3}, []int{0, 2})
	least(t, c, 0, 2)
	must(t, c)
	lies(t, c, perhaps, perhaps, perhaps, perhaps)
	good(t, b, true, 1, 3)
	good(t, b, false, 0, 1)
	good(t, b, false, 3)
	good(t, b, false, 0, 2)
	good(t, c, true, 0, 2)
}

// beyond has numbers that are not from one to another one.
func beyond(low, high int) []int {
	return []int{low - 1, high + 1, low - 7, high + 7, math.MinInt, math.MaxInt}
}

// invalid has books that are not valid, each for one reason.
func invalid() []api.WatchBook {
	books := []api.WatchBook{{}, {Trap: api.CountTrap{Chambers: 1}}, {Trap: api.CountTrap{Times: 1}}}
	add := func(change func(b *api.WatchBook)) { books = append(books, bookWith(change)) }
	for _, n := range beyond(0, api.MaxCountTimes) {
		add(func(b *api.WatchBook) { b.Drunk = n })
		add(func(b *api.WatchBook) { b.Run = n })
	}
	for _, n := range beyond(0, 3) {
		add(func(b *api.WatchBook) { b.Sober = []int{n} })
		add(func(b *api.WatchBook) { b.Sober = []int{0, n} })
		add(func(b *api.WatchBook) { b.Sober = []int{n, 3} })
		add(func(b *api.WatchBook) { b.Trap.Words[1].Time = n })
	}
	for _, sober := range [][]int{{1, 1}, {2, 1}, {0, 2, 1}, {3, 0}, {0, 1, 2, 3, 3}, {0, 1, 2, 3, 4}, {0, 0, 1, 2, 3}} {
		add(func(b *api.WatchBook) { b.Sober = sober })
	}
	for _, n := range beyond(1, api.MaxCountChambers) {
		add(func(b *api.WatchBook) { b.Trap.Chambers = n })
	}
	for _, n := range append(beyond(1, api.MaxCountTimes), 3, 5) {
		add(func(b *api.WatchBook) { b.Trap.Times = n })
	}
	for _, n := range beyond(0, 0) {
		add(func(b *api.WatchBook) { b.Trap.Words[2].Chamber = n })
		add(func(b *api.WatchBook) { b.Trap.Open[1] = []int{n} })
	}
	for _, n := range []int{-1, 7, math.MinInt, math.MaxInt} {
		add(func(b *api.WatchBook) { b.Trap.Words[0].Low = n })
	}
	for _, n := range []int{4, 41, -1, math.MinInt, math.MaxInt} {
		add(func(b *api.WatchBook) { b.Trap.Words[0].High = n })
	}
	for _, open := range [][][]int{nil, {{0}, {0}}, {{0}, {0}, {0}, {0}}, {{0}, {0, 0}, {0}}} {
		add(func(b *api.WatchBook) { b.Trap.Open = open })
	}
	for _, more := range []int{5, 6, 1000} {
		add(func(b *api.WatchBook) {
			b.Trap.Words = append(b.Trap.Words, slices.Repeat([]api.CountWord{word(0, 0, 0, 40)}, more)...)
		})
	}
	return books
}

// P11.1, and ErrWatch of all functions before any other error.
func TestInvalidBooks(t *testing.T) {
	worse := args{guess: []int{-1}, time: -1, word: -1, chamber: -1, from: 1, to: 0}
	for _, b := range invalid() {
		if e := watch.Check(b); e != api.ErrWatch {
			t.Errorf("Check of %v: %d", b, e)
		}
		errors(t, b, fitting(), all(api.ErrWatch))
		errors(t, b, worse, all(api.ErrWatch))
		untrue := also(drinking(b, b.Drunk, b.Run, b.Sober...), word(2, 0, 20, 20), word(3, 0, 10, 10))
		errors(t, untrue, fitting(), all(api.ErrWatch))
	}
}

// P11.1: what is just valid.
func TestValidBooks(t *testing.T) {
	for _, b := range []api.WatchBook{
		bookB(), bookC(), largest(), two(), {Trap: api.CountTrap{Chambers: 1, Times: 1}}, shut(0), shut(40, 40), shut(1, 2, 3, 4, 5),
		{Trap: api.CountTrap{Chambers: 1, Times: 1}, Drunk: 5, Run: 5, Sober: []int{0}}, drinking(shut(1, 2, 3, 4, 5), 5, 5, 0, 1, 2, 3, 4),
		drinking(bookB(), 0, 5), drinking(bookB(), 5, 0), drinking(bookB(), 1, 4, 3), drinking(bookB(), 4, 1, 0, 3),
		also(bookB(), slices.Repeat([]api.CountWord{word(3, 0, 0, 40)}, 4)...),
	} {
		if e := watch.Check(b); e != api.OK {
			t.Errorf("Check of %v: %d", b, e)
		}
		for _, got := range callAll(b, args{}) {
			if isArg := got.name == "Lies" && len(b.Trap.Words) == 0; isArg != (got.e == api.ErrArg) || got.e > api.ErrNone {
				t.Errorf("%v: %s = %v, %d", b, got.name, got.result, got.e)
			}
		}
	}
}

// ErrArg of the functions for an argument each, and not of the others; before ErrNone.
func TestWrongArgs(t *testing.T) {
	errors(t, bookB(), fitting(), nil)
	errors(t, two(), args{time: 2, word: 5, chamber: 1, from: 2, to: 2}, of(api.ErrNone, "Ask"))
	for _, b := range []api.WatchBook{bookB(), drinking(bookB(), 0, 0)} {
		for _, n := range beyond(0, 3) {
			wrong := func(change func(a *args), names ...string) {
				t.Helper()
				errors(t, b, argsWith(change), both(untold(b), of(api.ErrArg, names...)))
			}
			wrong(func(a *args) { a.time = n }, "Drunk", "Fish")
			wrong(func(a *args) { a.word = n }, "Lies")
			wrong(func(a *args) { a.to = n }, "Came")
			wrong(func(a *args) { a.from = n }, "Came")
			wrong(func(a *args) { a.from, a.to = n, 3 }, "Came")
			wrong(func(a *args) { a.from, a.to = n, n }, "Came")
			wrong(func(a *args) { a.guess = []int{n} })
		}
	}
	for _, b := range []api.WatchBook{two(), bookB(), shut(5), largest()} {
		for _, n := range beyond(0, b.Trap.Chambers-1) {
			if got, e := watch.Fish(b, 0, n); got != span(0, 0) || e != api.ErrArg {
				t.Errorf("%v: Fish of the chamber %d = %v, %d", b, n, got, e)
			}
		}
		for from := range b.Trap.Times {
			for to := range b.Trap.Times {
				if got, e := watch.Came(b, from, to); (e == api.ErrArg) != (from > to) || from > to && got != span(0, 0) {
					t.Errorf("%v: Came of %d, %d = %v, %d", b, from, to, got, e)
				}
			}
		}
	}
	if got, e := watch.Lies(api.WatchBook{Trap: api.CountTrap{Chambers: 1, Times: 1}}, 0); got != 0 || e != api.ErrArg {
		t.Errorf("Lies without words = %d, %d", got, e)
	}
}

// ErrNone if there is no story, but of Check, Good and Stories; Ask has it also if there is just one.
func TestNoStory(t *testing.T) {
	for _, b := range []api.WatchBook{
		drinking(bookB(), 1, 1, 2), drinking(bookB(), 0, 5), drinking(bookB(), 5, 0), drinking(bookB(), 2, 1, 0, 3), drinking(bookB(), 5, 5, 0, 1),
		drinking(shut(5, 5, 7, 7), 2, 1), drinking(shut(5, 6, 7), 1, 1), drinking(shut(5, 7), 5, 5, 0, 1), also(drinking(shut(5, 7), 5, 5, 0), word(0, 0, 7, 7)),
	} {
		if e := watch.Check(b); e != api.OK {
			t.Errorf("Check of %v: %d", b, e)
		}
		stories(t, b)
		errors(t, b, fitting(), untold(b))
	}
	for _, b := range []api.WatchBook{
		drinking(bookB(), 2, 1, 1, 2), drinking(shut(5, 5, 7), 1, 1), drinking(shut(5, 5, 5), 0, 0), drinking(shut(5, 5), 5, 0), drinking(shut(5, 5), 0, 5),
		drinking(shut(5, 5, 7), 2, 2, 2), drinking(shut(5), 5, 5, 0),
	} {
		errors(t, b, fitting(), of(api.ErrNone, "Ask"))
	}
}

// P11.2: lists of any numbers.
func TestGood(t *testing.T) {
	free := drinking(shut(5, 5, 5), 3, 3)
	for _, n := range beyond(0, 2) {
		for _, list := range [][]int{{n}, {0, n}, {n, 0}, {n, 1, 2}, {0, 1, n}, {n, n}} {
			good(t, free, false, list...)
		}
	}
	for _, list := range [][]int{{0, 0}, {1, 0}, {2, 1, 0}, {0, 2, 1}, {0, 1, 1}, {0, 0, 1, 2}, {0, 1, 2, 2}, {0, 1, 2, 3}, make([]int, 1000)} {
		good(t, free, false, list...)
	}
	for _, list := range [][]int{nil, {}, {0}, {1, 2}, {0, 1, 2}} {
		got, e := watch.Good(free, list)
		same(t, free, "Good", got, e, true)
	}
	sober := drinking(shut(5, 5, 5, 5, 5), 3, 2, 3)
	for _, list := range [][]int{{3}, {0, 3}, {0, 1, 2}, {0, 1, 2, 4}, {0, 2, 3}, {1, 2, 3}} {
		good(t, sober, false, list...)
	}
	for _, list := range [][]int{nil, {4}, {0, 1}, {1, 2}, {0, 1, 4}, {1, 2, 4}, {0, 2, 4}} {
		good(t, sober, true, list...)
	}
}

// P11.3 and P11.4: how often he was drunk, how often one time behind the other, and when he was sober; fewer times come first.
func TestStories(t *testing.T) {
	one := shut(5, 5, 7)
	stories(t, one, []int{2}, []int{0, 1}, []int{0, 2}, []int{1, 2}, []int{0, 1, 2})
	least(t, one, 2)
	stories(t, drinking(one, 2, 5), []int{2}, []int{0, 1}, []int{0, 2}, []int{1, 2})
	stories(t, drinking(one, 1, 5), []int{2})
	stories(t, drinking(one, 3, 1), []int{2}, []int{0, 2})
	stories(t, drinking(one, 3, 2), []int{2}, []int{0, 1}, []int{0, 2}, []int{1, 2})
	stories(t, drinking(one, 3, 3, 2), []int{0, 1})
	least(t, drinking(one, 3, 3, 2), 0, 1)
	stories(t, drinking(one, 3, 3, 0), []int{2}, []int{1, 2})
	stories(t, drinking(one, 5, 0))
	stories(t, drinking(shut(5, 5), 5, 0), nil)
	least(t, drinking(shut(5, 5), 5, 0))
	stories(t, drinking(shut(5, 5), 1, 5), nil, []int{0}, []int{1})
	least(t, shut(5, 7), 0)
	least(t, shut(7, 7, 5, 5), 0, 1)
	least(t, drinking(shut(5, 7, 5, 7), 2, 1), 0, 2)
	least(t, drinking(shut(5, 7, 5, 7), 2, 1, 0), 1, 3)
	least(t, shut(1, 2, 3, 4, 5), 0, 1, 2, 3)
	least(t, drinking(shut(1, 2, 3, 3, 5), 5, 2), 0, 1, 4)
	stories(t, drinking(shut(1, 2, 3, 3, 5), 5, 2), []int{0, 1, 4}, []int{0, 1, 3, 4})
	stories(t, drinking(shut(1, 2, 3, 4, 5), 4, 3), []int{0, 1, 2, 4}, []int{0, 1, 3, 4}, []int{0, 2, 3, 4})
	stories(t, two(), []int{1})
}

// P11.5 and P11.6.
func TestDrunk(t *testing.T) {
	drunk(t, shut(5, 5, 7), perhaps, perhaps, perhaps)
	must(t, shut(5, 5, 7))
	drunk(t, drinking(shut(5, 5, 7), 3, 1), perhaps, never, surely)
	must(t, drinking(shut(5, 5, 7), 3, 1), 2)
	drunk(t, drinking(shut(5, 5, 7), 5, 5, 2), surely, surely, never)
	must(t, drinking(shut(5, 5, 7), 5, 5, 2), 0, 1)
	drunk(t, drinking(shut(5, 5), 5, 0), never, never)
	drunk(t, drinking(shut(5, 5), 5, 1), perhaps, perhaps)
	must(t, drinking(shut(5, 5), 5, 1))
	drunk(t, drinking(shut(1, 2, 3, 4, 5), 4, 3), surely, perhaps, perhaps, perhaps, surely)
	must(t, drinking(shut(1, 2, 3, 4, 5), 4, 3), 0, 4)
	must(t, two(), 1)
}

// P11.7: not the time that most can be drunk at, but the one by which both answers leave few; the first one of several.
func TestAsk(t *testing.T) {
	ask(t, shut(5, 5, 7), 0)
	ask(t, shut(5, 7, 7), 1)
	ask(t, shut(7, 5, 7), 0)
	ask(t, drinking(shut(5, 5, 7), 3, 1), 0)
	ask(t, drinking(shut(5, 5, 7), 3, 3, 0), 1)
	ask(t, drinking(shut(5, 5), 1, 1), 0)
	ask(t, drinking(shut(5, 5), 1, 1, 0), 1)
	ask(t, drinking(shut(5, 5, 7), 1, 1), none)
	ask(t, drinking(shut(1, 2, 3, 3, 5), 5, 2), 3)
	ask(t, drinking(shut(5, 5), 0, 0), none)
	ask(t, two(), none)
}

// P11.8: a word can hold though he was drunk, and each word of a time is known by its number.
func TestLies(t *testing.T) {
	one := shut(5, 5, 7)
	lies(t, one, perhaps, perhaps, perhaps)
	lies(t, drinking(one, 3, 1), never, never, surely)
	lies(t, drinking(one, 1, 1), never, never, surely)
	lies(t, drinking(one, 3, 3, 2), surely, surely, never)
	lies(t, drinking(shut(5, 5, 5), 3, 3), perhaps, perhaps, perhaps)
	lies(t, drinking(shut(5, 5, 5), 2, 2), never, never, never)
	more := also(drinking(one, 1, 1), word(2, 0, 0, 40), word(2, 0, 5, 5), word(2, 0, 4, 4), word(2, 0, 6, 40), word(0, 0, 1, 5))
	lies(t, more, never, never, surely, never, never, surely, surely, never)
	lies(t, two(), never, never, perhaps, surely, never, never)
	lies(t, drinking(two(), 5, 5), perhaps, perhaps, perhaps, perhaps, perhaps, perhaps)
	lies(t, drinking(bookB(), 2, 2, 3), surely, never, surely, never)
	lies(t, also(drinking(shut(0), 1, 1), word(0, 0, 0, 40)), perhaps, never)
}

// weighed is a book in which the words of more times are fewer words.
func weighed() api.WatchBook {
	return also(shut(5, 7, 5, 7, 5), word(1, 0, 7, 7), word(3, 0, 7, 7), word(1, 0, 0, 40))
}

// P11.9 and P11.10: the fewest words, not the fewest times; of as many the least list; and their times must be a guess that can be.
func TestBlame(t *testing.T) {
	blame(t, shut(5, 5, 5))
	blame(t, shut(5, 5, 7), 2)
	blame(t, shut(5, 7), 0)
	blame(t, shut(5, 7, 7), 0)
	blame(t, shut(7, 7, 5, 5), 0, 1)
	blame(t, drinking(shut(7, 7, 5, 5), 5, 5, 1), 2, 3)
	blame(t, drinking(shut(5, 5, 7), 5, 5, 2), 0, 1)
	blame(t, also(shut(5, 7), word(0, 0, 5, 5)), 1)
	blame(t, also(drinking(shut(5, 7), 5, 5, 1), word(0, 0, 5, 5), word(0, 0, 7, 8), word(0, 0, 0, 6)), 0, 2, 4)
	blame(t, weighed(), 0, 2, 4)
	least(t, weighed(), 1, 3)
	blame(t, drinking(weighed(), 3, 1), 0, 2, 4)
	blame(t, drinking(weighed(), 2, 1), 1, 3, 5, 6)
	blame(t, drinking(shut(1, 2, 3, 3, 5), 5, 2), 0, 1, 4)
	blame(t, drinking(shut(1, 2, 3, 4, 5), 4, 3), 0, 1, 2, 4)
	blame(t, shut(1, 2, 3, 4, 5), 0, 1, 2, 3)
	blame(t, also(shut(9), word(0, 0, 8, 8), word(0, 0, 3, 4), word(0, 0, 8, 9)), 0, 2)
	blame(t, two(), 3)
	blame(t, drinking(bookB(), 2, 2, 3), 0, 2)
	reversed := bookC()
	slices.Reverse(reversed.Trap.Words)
	blame(t, reversed, 0, 2)
	blame(t, drinking(reversed, 2, 1, 1), 0, 3)
}

// P11.11: the numbers of all stories, also those between which there is none; not only those of the first one.
func TestFish(t *testing.T) {
	one := shut(5, 5, 7)
	fish(t, one, 0, 0, span(0, 40))
	fish(t, drinking(one, 2, 2), 0, 0, span(5, 7))
	fish(t, drinking(one, 2, 1), 2, 0, span(5, 5))
	fish(t, drinking(one, 2, 2, 2), 0, 0, span(7, 7))
	fish(t, drinking(shut(20, 3), 1, 1), 1, 0, span(3, 20))
	fish(t, drinking(shut(3, 20), 1, 1), 1, 0, span(3, 20))
	fish(t, two(), 0, 0, span(8, 9))
	fish(t, two(), 1, 0, span(3, 9))
	fish(t, two(), 1, 1, span(1, 6))
	fish(t, two(), 2, 1, span(5, 6))
	fish(t, drinking(two(), 5, 5, 2), 0, 1, span(0, 6))
	fish(t, drinking(two(), 5, 5, 1), 0, 0, span(3, 24))
}

// P11.12.
func TestCame(t *testing.T) {
	came(t, bookB(), 0, 0, span(0, 0))
	came(t, bookB(), 3, 3, span(0, 0))
	came(t, bookB(), 0, 1, span(0, 4))
	came(t, bookB(), 1, 2, span(0, 7))
	came(t, bookB(), 2, 3, span(0, 33))
	came(t, shut(5, 7), 0, 1, span(0, 0))
	came(t, two(), 0, 1, span(0, 0))
	came(t, two(), 0, 2, span(0, 2))
	came(t, two(), 1, 2, span(0, 2))
	came(t, drinking(two(), 5, 5), 0, 2, span(0, 40))
}

// R3 and R4: empty lists are nil lists; arguments are not changed, and a change of a result, or of what lies behind it, changes nothing else.
func TestMemory(t *testing.T) {
	a, e := bookC(), bookC()
	e.Sober = []int{}
	if want, got := callAll(a, args{}), callAll(e, args{guess: []int{}}); !reflect.DeepEqual(want, got) {
		t.Errorf("with nil lists %v, with empty ones %v", want, got)
	}
	for _, make := range []func() api.WatchBook{bookB, two, largest, weighed, func() api.WatchBook { return drinking(shut(1, 2, 3, 4, 5), 4, 3, 1, 2) }} {
		b, a := make(), args{guess: append(slices.Grow([]int{0, 3}, 3), 7, 7)[:2]}
		b.Sober = append(slices.Grow(b.Sober, 3), 7, 7)[:len(b.Sober)]
		b.Trap.Words = append(slices.Grow(b.Trap.Words, 3), word(7, 7, 7, 7), word(7, 7, 7, 7))[:len(b.Trap.Words)]
		first := callAll(make(), a)
		for range 2 {
			for i, got := range callAll(b, a) {
				if !reflect.DeepEqual(got, first[i]) {
					t.Errorf("%v: %s = %v, and then %v", b, got.name, first[i], got)
				}
				spoil(got.result)
			}
			behind := slices.Equal(a.guess[:4], []int{0, 3, 7, 7}) && slices.Equal(b.Sober[len(b.Sober):][:2], []int{7, 7}) &&
				slices.Equal(b.Trap.Words[len(b.Trap.Words):][:2], []api.CountWord{word(7, 7, 7, 7), word(7, 7, 7, 7)})
			want := make()
			if !behind || !reflect.DeepEqual(b.Trap, want.Trap) || !slices.Equal(b.Sober, want.Sober) || b.Drunk != want.Drunk || b.Run != want.Run {
				t.Fatalf("the arguments are changed: %v, %v", b, a)
			}
		}
	}
}

// spoil changes the list of a result, and what lies behind it.
func spoil(result any) {
	list, _ := result.([]int)
	for i := range list[:cap(list)] {
		list[:cap(list)][i] = -9
	}
}
