package counts_test

import (
	"math"
	"reflect"
	"slices"
	"testing"

	"almadraba/api"
	"almadraba/counts"
)

func word(time, chamber, low, high int) api.CountWord {
	return api.CountWord{Time: time, Chamber: chamber, Low: low, High: high}
}

func span(low, high int) api.Span { return api.Span{Low: low, High: high} }

func place(time, chamber int) api.CountPlace { return api.CountPlace{Time: time, Chamber: chamber} }

// trapT is T of the chapter's examples, with some words more.
func trapT(more ...api.CountWord) api.CountTrap {
	return api.CountTrap{
		Chambers: 2, Times: 3, Open: [][]int{{0, 1}, {1}},
		Words: append([]api.CountWord{word(0, 0, 5, 6), word(0, 1, 0, 0), word(1, 0, 3, 8), word(2, 1, 4, 10)}, more...),
	}
}

// trapQ is Q of the chapter's examples: it has no truth.
func trapQ() api.CountTrap { return trapT(word(1, 1, 12, 20)) }

// largest is a trap with as much of everything as there can be.
func largest() api.CountTrap {
	return api.CountTrap{
		Chambers: 4, Times: 5, Open: slices.Repeat([][]int{{0, 1, 2, 3}}, 4),
		Words: slices.Repeat([]api.CountWord{word(4, 3, 0, 40)}, 8),
	}
}

// args is one of each kind of argument beside a trap.
type args struct {
	numbers                    [][]int
	time, chamber              int
	from, to, step, door, fish int
	word                       api.CountWord
	place                      api.CountPlace
}

// fitting has arguments that fit each valid trap with two times.
func fitting() args { return args{fish: 1} }

// answer is what a call returned.
type answer struct {
	name   string
	result any
	e      api.Errno
}

// callAll calls each function but Check.
func callAll(t api.CountTrap, a args) []answer {
	holds, e0 := counts.Holds(t, a.numbers)
	truth, e1 := counts.Truth(t)
	fish, e2 := counts.Fish(t, a.time, a.chamber)
	whole, e3 := counts.Whole(t, a.time)
	came, e4 := counts.Came(t, a.from, a.to)
	passed, e5 := counts.Passed(t, a.step, a.door)
	judge, e6 := counts.Judge(t, a.word)
	enough, e7 := counts.Enough(t, a.fish)
	tell, e8 := counts.Tell(t, a.place)
	ask, e9 := counts.Ask(t)
	idle, e10 := counts.Idle(t)
	return []answer{
		{"Holds", holds, e0}, {"Truth", truth, e1}, {"Fish", fish, e2}, {"Whole", whole, e3}, {"Came", came, e4},
		{"Passed", passed, e5}, {"Judge", judge, e6}, {"Enough", enough, e7}, {"Tell", tell, e8}, {"Ask", ask, e9},
		{"Idle", idle, e10},
	}
}

// isZero reports whether a result is a zero value, or an empty list.
func isZero(result any) bool {
	v := reflect.ValueOf(result)
	return v.IsZero() || v.Kind() == reflect.Slice && v.Len() == 0
}

// invalid has traps that are not valid, each for one reason.
func invalid() []api.CountTrap {
	doors := func(open ...[]int) api.CountTrap {
		t := trapT()
		t.Open = open
		return t
	}
	traps := []api.CountTrap{
		{}, {Chambers: 0, Times: 1}, {Chambers: -1, Times: 1}, {Chambers: 5, Times: 1}, {Chambers: math.MaxInt, Times: 1},
		{Chambers: math.MinInt, Times: 1}, {Chambers: 1, Times: 0}, {Chambers: 1, Times: -1}, {Chambers: 1, Times: math.MinInt},
		{Chambers: 1, Times: math.MaxInt}, {Chambers: 1, Times: 6, Open: make([][]int, 5)}, {Chambers: 1, Times: 1, Open: [][]int{nil}},
		doors(), doors(nil), doors(nil, nil, nil), doors([]int{1, 0}, nil), doors(nil, []int{0, 0}), doors([]int{2}, nil),
		doors(nil, []int{-1}), doors([]int{0, math.MaxInt}, nil), doors([]int{math.MinInt}, nil),
	}
	for _, w := range wrong() {
		traps = append(traps, trapT(w))
	}
	many := largest()
	many.Words = append(many.Words, word(4, 3, 0, 40))
	return append(traps, many)
}

// wrong has words that cannot be in a trap of 2 chambers and 3 times, each for one reason.
func wrong() []api.CountWord {
	return []api.CountWord{
		word(-1, 0, 0, 40), word(3, 0, 0, 40), word(0, -1, 0, 40), word(0, 2, 0, 40), word(0, 0, -1, 40), word(0, 0, 0, 41),
		word(0, 0, 2, 1), word(math.MinInt, 0, 0, 40), word(math.MaxInt, 0, 0, 40), word(0, math.MinInt, 0, 40),
		word(0, math.MaxInt, 0, 40), word(0, 0, math.MinInt, 40), word(0, 0, 0, math.MaxInt), word(0, 0, math.MaxInt, math.MinInt),
	}
}

// P1.1, and ErrCount before ErrArg and ErrNone.
func TestInvalidTraps(t *testing.T) {
	odd := args{time: -1, from: 2, step: -1, place: place(-1, -1), word: word(-1, -1, -1, -1)}
	for i, trap := range invalid() {
		if e := counts.Check(trap); e != api.ErrCount {
			t.Errorf("%d: Check: %d", i, e)
		}
		for _, a := range slices.Concat(callAll(trap, fitting()), callAll(trap, odd)) {
			if a.e != api.ErrCount || !isZero(a.result) {
				t.Errorf("%d: %s = %v, %d", i, a.name, a.result, a.e)
			}
		}
	}
}

// P1.1: what is just valid.
func TestValidTraps(t *testing.T) {
	traps := []api.CountTrap{
		{Chambers: 1, Times: 1}, {Chambers: 4, Times: 1}, {Chambers: 1, Times: 5, Open: make([][]int, 4)}, largest(), trapT(), trapQ(),
		trapT(word(0, 0, 40, 40)), trapT(word(2, 1, 0, 0)), trapT(word(0, 0, 0, 0), word(0, 0, 1, 1)),
		{Chambers: 2, Times: 2, Open: [][]int{{1}}}, {Chambers: 2, Times: 2, Open: [][]int{{0}}},
	}
	for i, trap := range traps {
		if e := counts.Check(trap); e != api.OK {
			t.Errorf("%d: Check: %d", i, e)
		}
	}
}

// ErrArg comes before ErrNone, and with zero values.
func TestWrongArguments(t *testing.T) {
	for _, trap := range []api.CountTrap{trapT(), trapQ()} {
		for _, n := range []int{math.MinInt, -1, 3, math.MaxInt} {
			isArg(t, trap, args{time: n, fish: 1}, "Fish", "Whole")
			isArg(t, trap, args{place: place(n, 0), word: word(n, 0, 0, 0)}, "Tell", "Judge")
			isArg(t, trap, args{from: n, to: n}, "Came")
			isArg(t, trap, args{from: 0, to: n}, "Came")
			isArg(t, trap, args{from: n, to: 2}, "Came")
		}
		for _, n := range []int{math.MinInt, -1, 2, math.MaxInt} {
			isArg(t, trap, args{chamber: n, place: place(0, n), word: word(0, n, 0, 0)}, "Fish", "Tell", "Judge")
			isArg(t, trap, args{door: n}, "Passed")
			isArg(t, trap, args{step: n}, "Passed")
		}
		for _, n := range []int{math.MinInt, -1, 0, 41, math.MaxInt} {
			isArg(t, trap, args{fish: n}, "Enough")
		}
		for _, w := range wrong() {
			isArg(t, trap, args{word: w}, "Judge")
		}
		isArg(t, trap, args{from: 1, to: 0}, "Came")
		isArg(t, trap, args{from: 2, to: 1}, "Came")
	}
	isArg(t, api.CountTrap{Chambers: 2, Times: 1}, args{}, "Passed")
}

// isArg checks that calls by these names return ErrArg.
func isArg(t *testing.T, trap api.CountTrap, a args, names ...string) {
	t.Helper()
	for _, got := range callAll(trap, a) {
		if slices.Contains(names, got.name) && (got.e != api.ErrArg || !isZero(got.result)) {
			t.Errorf("%s with %v = %v, %d", got.name, a, got.result, got.e)
		}
	}
}

// ErrNone if there is no truth, also if there would be one without a word.
func TestNoTruth(t *testing.T) {
	traps := []api.CountTrap{
		trapQ(), trapT(word(0, 0, 4, 4)), trapT(word(1, 1, 0, 3), word(2, 0, 9, 9)),
		{Chambers: 2, Times: 1, Words: []api.CountWord{word(0, 0, 20, 40), word(0, 1, 21, 40)}},
		{Chambers: 2, Times: 2, Open: [][]int{{0}}, Words: []api.CountWord{word(0, 1, 1, 2), word(1, 1, 3, 4)}},
		{Chambers: 2, Times: 2, Open: [][]int{{1}}, Words: []api.CountWord{word(0, 0, 1, 2), word(1, 0, 3, 4)}},
		{Chambers: 1, Times: 2, Open: [][]int{{0}}, Words: []api.CountWord{word(0, 0, 3, 4), word(1, 0, 1, 2)}},
	}
	for i, trap := range traps {
		for _, got := range callAll(trap, fitting()) {
			want := api.ErrNone
			if got.name == "Holds" {
				want = api.OK
			}
			if got.name == "Passed" && trap.Times == 1 {
				want = api.ErrArg
			}
			if got.e != want || !isZero(got.result) {
				t.Errorf("%d: %s = %v, %d", i, got.name, got.result, got.e)
			}
		}
	}
}

// P1: any arguments, none of which panics or goes on for ever.
func TestAnyArguments(t *testing.T) {
	numbers := []int{math.MinInt, math.MinInt + 1, -1, 0, 1, 2, 4, 5, 40, 41, math.MaxInt - 1, math.MaxInt}
	traps := append(invalid(), trapT(), trapQ(), largest(), api.CountTrap{Chambers: 1, Times: 1})
	for _, trap := range traps {
		for _, m := range numbers {
			for _, n := range numbers {
				a := args{numbers: [][]int{{m, n}, {n}, {n, m, n}}, time: m, chamber: n, from: m, to: n, step: m, door: n, fish: m}
				a.word, a.place = word(m, n, n, m), place(m, n)
				callAll(trap, a)
			}
		}
	}
	for _, m := range numbers {
		for _, n := range numbers {
			callAll(api.CountTrap{Chambers: m, Times: n, Open: [][]int{{m}, {n}}, Words: []api.CountWord{word(m, n, m, n)}}, fitting())
		}
	}
}

// R4 and 7a: no argument is changed, and a result is new memory.
func TestMemory(t *testing.T) {
	trap := trapT(word(1, 1, 0, 20))
	callAll(trap, args{numbers: [][]int{{5, 0}, {3, 2}, {1, 4}}, fish: 1})
	if !reflect.DeepEqual(trap, trapT(word(1, 1, 0, 20))) {
		t.Errorf("the trap was changed: %v", trap)
	}
	one, _ := counts.Truth(trap)
	for i := range one {
		one[i] = append(one[i], -7)[:2]
		one[i][0], one[i][1] = -1-i, -9
	}
	for i, l := range one {
		if !slices.Equal(l, []int{-1 - i, -9}) {
			t.Errorf("the lists of a truth share memory: %v", one)
		}
	}
	two, e := counts.Truth(trap)
	if is, _ := counts.Holds(trap, two); e != api.OK || !is {
		t.Errorf("Truth = %v, %d, behind changes of the one before", two, e)
	}
	idle, _ := counts.Idle(trap)
	if !slices.Equal(idle, []int{4}) {
		t.Fatalf("Idle = %v", idle)
	}
	idle[0] = 9
	if again, _ := counts.Idle(trap); !slices.Equal(again, []int{4}) {
		t.Errorf("Idle = %v, behind a change of the one before", again)
	}
}

// R3: a nil list and an empty one are the same.
func TestNilAndEmpty(t *testing.T) {
	none := api.CountTrap{Chambers: 1, Times: 2, Open: [][]int{nil}}
	empty := api.CountTrap{Chambers: 1, Times: 2, Open: [][]int{{}}, Words: []api.CountWord{}}
	if a, b := callAll(none, fitting()), callAll(empty, fitting()); !reflect.DeepEqual(a, b) {
		t.Errorf("%v is not %v", a, b)
	}
	if e := counts.Check(api.CountTrap{Chambers: 1, Times: 1, Open: [][]int{}}); e != api.OK {
		t.Errorf("Check: %d", e)
	}
	is, e := counts.Holds(trapT(), [][]int{})
	if is || e != api.OK {
		t.Errorf("Holds of an empty list = %t, %d", is, e)
	}
}

// The examples of the chapter.
func TestExamples(t *testing.T) {
	trap := trapT()
	fish, e := spans(trap)
	if e != api.OK || !reflect.DeepEqual(fish, []api.Span{
		span(5, 6), span(0, 0), span(3, 8), span(0, 10), span(0, 8), span(4, 10), // Fish
		span(5, 6), span(5, 18), span(5, 18), // Whole
		span(0, 0), span(0, 13), span(0, 13), span(0, 0), span(0, 0), span(0, 0), // Came
		span(0, 13), span(0, 10), span(0, 0), span(0, 8), // Passed
	}) {
		t.Errorf("spans: %v, %d", fish, e)
	}
	for _, x := range []struct {
		word api.CountWord
		want int
	}{{word(2, 1, 0, 10), api.Surely}, {word(0, 0, 7, 9), api.Never}, {word(1, 0, 5, 6), api.Perhaps}} {
		if n, e := counts.Judge(trap, x.word); n != x.want || e != api.OK {
			t.Errorf("Judge of %v = %d, %d", x.word, n, e)
		}
	}
	if s, e := counts.Enough(trap, 4); s != span(1, 2) || e != api.OK {
		t.Errorf("Enough of 4 = %v, %d", s, e)
	}
	if s, e := counts.Enough(trap, 5); s != span(0, 0) || e != api.ErrNone {
		t.Errorf("Enough of 5 = %v, %d", s, e)
	}
	for _, p := range []api.CountPlace{place(2, 0), place(1, 1)} {
		if n, e := counts.Tell(trap, p); n != 6 || e != api.OK {
			t.Errorf("Tell of %v = %d, %d", p, n, e)
		}
	}
	if p, e := counts.Ask(trap); p != place(0, 0) || e != api.OK {
		t.Errorf("Ask = %v, %d", p, e)
	}
	if l, e := counts.Idle(trap); len(l) > 0 || e != api.OK {
		t.Errorf("Idle = %v, %d", l, e)
	}
}

// spans returns all of Fish, Whole, Came and Passed.
func spans(t api.CountTrap) ([]api.Span, api.Errno) {
	var list []api.Span
	var first api.Errno
	add := func(s api.Span, e api.Errno) {
		list = append(list, s)
		if first == api.OK {
			first = e
		}
	}
	for time := range t.Times {
		for chamber := range t.Chambers {
			add(counts.Fish(t, time, chamber))
		}
	}
	for time := range t.Times {
		add(counts.Whole(t, time))
	}
	for from := range t.Times {
		for to := from; to < t.Times; to++ {
			add(counts.Came(t, from, to))
		}
	}
	for step := range t.Times - 1 {
		for door := range t.Chambers {
			add(counts.Passed(t, step, door))
		}
	}
	return list, first
}

// P1.2: lists of any numbers.
func TestHolds(t *testing.T) {
	for i, x := range []struct {
		t       api.CountTrap
		numbers [][]int
		want    bool
	}{
		{trapT(), [][]int{{5, 0}, {3, 2}, {1, 4}}, true},
		{trapT(), [][]int{{5, 0}, {8, 10}, {8, 10}}, true},
		{trapT(), [][]int{{5, 0}, {3, 2}, {0, 6}}, false},         // the door 0 was closed
		{trapT(), [][]int{{5, 0}, {3, 2}, {2, 3}}, false},         // a word does not hold
		{trapT(), [][]int{{5, 0}, {3, 5}, {4, 4}}, false},         // fish went back
		{trapT(), [][]int{{6, 0}, {3, 2}, {1, 4}}, false},         // fish went out
		{trapT(), [][]int{{5, 0}, {3, 2}}, false},                 // a time less
		{trapT(), [][]int{{5, 0}, {3, 2}, {1, 4}, {1, 4}}, false}, // a time more
		{trapT(), [][]int{{5, 0}, {3}, {1, 4}}, false},            // a chamber less
		{trapT(), [][]int{{5, 0}, {3, 2, 0}, {1, 4}}, false},      // a chamber more
		{trapT(), [][]int{{5, 0}, {3, 2}, nil}, false},            // no chambers
		{trapT(), nil, false},                                     // no times
		{trapT(), [][]int{{5, 0}, {3, 2}, {-1, 6}}, false},        // below 0
		{trapQ(), [][]int{{5, 0}, {3, 2}, {1, 4}}, false},         // there is no truth
		{api.CountTrap{Chambers: 1, Times: 1}, [][]int{{40}}, true},
		{api.CountTrap{Chambers: 1, Times: 1}, [][]int{{41}}, false},
		{api.CountTrap{Chambers: 1, Times: 1}, [][]int{{-1}}, false},
		{api.CountTrap{Chambers: 2, Times: 1}, [][]int{{20, 20}}, true},
		{api.CountTrap{Chambers: 2, Times: 1}, [][]int{{20, 21}}, false},
		{api.CountTrap{Chambers: 2, Times: 1}, [][]int{{41, -1}}, false},
		{api.CountTrap{Chambers: 2, Times: 1}, [][]int{{math.MaxInt, math.MinInt}}, false},
		{api.CountTrap{Chambers: 4, Times: 1}, [][]int{{math.MaxInt, math.MaxInt, 1, 1}}, false}, // together 0
		{api.CountTrap{Chambers: 4, Times: 1}, [][]int{{math.MinInt, math.MinInt, 1, 1}}, false},
		{api.CountTrap{Chambers: 3, Times: 2, Open: [][]int{{0, 2}}}, [][]int{{0, 4, 0}, {3, 1, 3}}, true},
		{api.CountTrap{Chambers: 3, Times: 2, Open: [][]int{{0, 2}}}, [][]int{{1, 4, 0}, {0, 5, 0}}, false},    // through a closed door
		{api.CountTrap{Chambers: 3, Times: 2, Open: [][]int{{0, 2}}}, [][]int{{0, 4, 0}, {0, 3, 2}}, false},    // out of nothing
		{api.CountTrap{Chambers: 3, Times: 2, Open: [][]int{{0, 1, 2}}}, [][]int{{0, 0, 0}, {0, 0, 40}}, true}, // several doors in a step
	} {
		if is, e := counts.Holds(x.t, x.numbers); is != x.want || e != api.OK {
			t.Errorf("%d: Holds = %t, %d", i, is, e)
		}
	}
}

// P1.9: none, for each reason, and at the limits.
func TestEnough(t *testing.T) {
	full := api.CountTrap{Chambers: 1, Times: 2, Open: [][]int{{0}}, Words: []api.CountWord{word(1, 0, 40, 40)}}
	for i, x := range []struct {
		t    api.CountTrap
		fish int
		want api.Span
		e    api.Errno
	}{
		{full, 40, span(0, 1), api.OK}, {full, 1, span(0, 1), api.OK}, {trapT(), 1, span(1, 2), api.OK},
		{trapT(), 10, span(0, 0), api.ErrNone}, {trapT(), 11, span(0, 0), api.ErrNone},
		{api.CountTrap{Chambers: 1, Times: 1}, 1, span(0, 0), api.ErrNone},
	} {
		if s, e := counts.Enough(x.t, x.fish); s != x.want || e != x.e {
			t.Errorf("%d: Enough = %v, %d", i, s, e)
		}
	}
}

// P1.11: ErrNone for each reason, and which place of several.
func TestAsk(t *testing.T) {
	for i, x := range []struct {
		t    api.CountTrap
		want api.CountPlace
		e    api.Errno
	}{
		{api.CountTrap{Chambers: 1, Times: 1}, place(0, 0), api.ErrNone},                                                               // there is no other place
		{api.CountTrap{Chambers: 2, Times: 2, Open: [][]int{nil}, Words: []api.CountWord{word(0, 1, 3, 3)}}, place(0, 0), api.ErrNone}, // no doubt
		{api.CountTrap{Chambers: 1, Times: 2, Open: [][]int{nil}}, place(0, 0), api.OK},
		{api.CountTrap{Chambers: 2, Times: 1}, place(0, 0), api.OK},
		{api.CountTrap{Chambers: 2, Times: 3, Open: [][]int{{1}, nil}}, place(1, 1), api.OK},
		{api.CountTrap{Chambers: 1, Times: 3, Open: [][]int{{0}, {0}}}, place(0, 0), api.OK},                                                                          // all are as good
		{api.CountTrap{Chambers: 2, Times: 2, Open: [][]int{{1}}, Words: []api.CountWord{word(0, 0, 5, 5), word(0, 1, 0, 3), word(1, 0, 2, 5)}}, place(0, 1), api.OK}, // as good as 1 0
	} {
		if p, e := counts.Ask(x.t); p != x.want || e != x.e {
			t.Errorf("%d: Ask = %v, %d", i, p, e)
		}
	}
}

// P1.12: words that are twice there, a word that says nothing, and as many words as there can be.
func TestIdle(t *testing.T) {
	same := api.CountTrap{Chambers: 1, Times: 1, Words: []api.CountWord{word(0, 0, 1, 2), word(0, 0, 1, 2)}}
	wider := api.CountTrap{Chambers: 1, Times: 1, Words: []api.CountWord{word(0, 0, 1, 3), word(0, 0, 1, 2), word(0, 0, 0, 40)}}
	for i, x := range []struct {
		t    api.CountTrap
		want []int
	}{
		{trapT(), nil}, {same, []int{0, 1}}, {wider, []int{0, 2}}, {largest(), []int{0, 1, 2, 3, 4, 5, 6, 7}},
		{api.CountTrap{Chambers: 1, Times: 1, Words: []api.CountWord{word(0, 0, 1, 2), word(0, 0, 2, 3)}}, nil},
		{api.CountTrap{Chambers: 1, Times: 2, Open: [][]int{{0}}, Words: []api.CountWord{word(0, 0, 3, 3), word(1, 0, 3, 40)}}, []int{1}},
		{api.CountTrap{Chambers: 4, Times: 5, Open: make([][]int, 4)}, nil},
	} {
		if l, e := counts.Idle(x.t); !slices.Equal(l, x.want) || e != api.OK {
			t.Errorf("%d: Idle = %v, %d", i, l, e)
		}
	}
}
