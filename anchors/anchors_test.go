package anchors_test

import (
	"math"
	"reflect"
	"slices"
	"testing"

	"almadraba/anchors"
	"almadraba/api"
)

func span(low, high int) api.Span { return api.Span{Low: low, High: high} }

func anchor(weight, bottom int) api.Anchor { return api.Anchor{Weight: weight, Bottom: bottom} }

func wall(sail, drag, lean, corks, stones int) api.AnchorWall {
	return api.AnchorWall{Sail: sail, Drag: drag, Lean: lean, Corks: corks, Stones: stones}
}

func truth(wind, current int, grips ...int) api.AnchorTruth {
	return api.AnchorTruth{Wind: wind, Current: current, Grips: grips}
}

// netN is N of the chapter's examples.
func netN() api.AnchorNet {
	return api.AnchorNet{
		Wind: span(2, 4), Current: span(1, 3), Grips: []api.Span{span(2, 3), span(1, 4)},
		Anchors: []api.Anchor{anchor(6, 0), anchor(5, 1), anchor(4, 0)},
		Walls:   []api.AnchorWall{wall(2, 1, 3, 8, 9), wall(1, 2, 2, 6, 6)},
	}
}

// netWith is N with something changed.
func netWith(change func(n *api.AnchorNet)) api.AnchorNet {
	n := netN()
	change(&n)
	return n
}

// still is a net of one bottom, without wind and current, with these anchors and walls.
func still(grip int, weights []int, walls ...api.AnchorWall) api.AnchorNet {
	n := api.AnchorNet{Grips: []api.Span{span(grip, grip)}, Walls: walls}
	for _, weight := range weights {
		n.Anchors = append(n.Anchors, anchor(weight, 0))
	}
	return n
}

// sails is a net of one bottom that grips by 1, in a wind of 1, with these anchors, and walls with these sails.
func sails(weights []int, sails ...int) api.AnchorNet {
	n := still(1, weights)
	n.Wind = span(1, 1)
	for _, sail := range sails {
		n.Walls = append(n.Walls, wall(sail, 0, 0, 0, 0))
	}
	return n
}

// largest is a net with as much of everything as there can be.
func largest() api.AnchorNet {
	return api.AnchorNet{
		Wind: span(20, 20), Current: span(20, 20), Grips: slices.Repeat([]api.Span{span(9, 9)}, 3),
		Anchors: slices.Repeat([]api.Anchor{anchor(20, 2)}, 6), Walls: slices.Repeat([]api.AnchorWall{wall(9, 9, 9, 99, 99)}, 5),
	}
}

// args is one of each kind of argument beside a net.
type args struct {
	wall, wind, current, anchor int
	truth                       api.AnchorTruth
}

// answer is what a call returned.
type answer struct {
	name   string
	result any
	e      api.Errno
}

// callAll calls each function but Check.
func callAll(n api.AnchorNet, a args) []answer {
	load, e0 := anchors.Load(n, a.wall, a.wind, a.current)
	upright, e1 := anchors.Upright(n, a.wall)
	first, e2 := anchors.First(n, a.truth)
	drags, e3 := anchors.Drags(n, a.truth)
	pulled, e4 := anchors.Pulled(n, a.truth, a.anchor)
	key, e5 := anchors.Key(n, a.truth)
	drag, e6 := anchors.Drag(n, a.anchor)
	safe, e7 := anchors.Safe(n)
	spare, e8 := anchors.Spare(n, a.anchor)
	wind, e9 := anchors.Wind(n)
	storm, e10 := anchors.Storm(n)
	help, e11 := anchors.Help(n)
	need, e12 := anchors.Need(n)
	return []answer{
		{"Load", load, e0}, {"Upright", upright, e1}, {"First", first, e2}, {"Drags", drags, e3}, {"Pulled", pulled, e4},
		{"Key", key, e5}, {"Drag", drag, e6}, {"Safe", safe, e7}, {"Spare", spare, e8}, {"Wind", wind, e9},
		{"Storm", storm, e10}, {"Help", help, e11}, {"Need", need, e12},
	}
}

// isZero reports whether a result is a zero value, or an empty list.
func isZero(result any) bool {
	v := reflect.ValueOf(result)
	return v.IsZero() || v.Kind() == reflect.Slice && v.Len() == 0
}

// wrongSpans has spans that are not from 0 to an end, each for one reason.
func wrongSpans(end int) []api.Span {
	return []api.Span{
		span(-1, 1), span(0, end+1), span(end+1, end+1), span(2, 1), span(-1, -1), span(math.MinInt, 1),
		span(0, math.MaxInt), span(math.MaxInt, math.MinInt), span(math.MinInt, math.MaxInt),
	}
}

// beyond has numbers that are not from 0 to an end.
func beyond(end int) []int {
	return []int{-1, end + 1, math.MinInt, math.MaxInt}
}

// invalid has nets that are not valid, each for one reason.
func invalid() []api.AnchorNet {
	var nets []api.AnchorNet
	add := func(change func(n *api.AnchorNet)) { nets = append(nets, netWith(change)) }
	for _, s := range wrongSpans(api.MaxAnchorForce) {
		add(func(n *api.AnchorNet) { n.Wind = s })
		add(func(n *api.AnchorNet) { n.Current = s })
	}
	for _, s := range wrongSpans(api.MaxAnchorGrip) {
		add(func(n *api.AnchorNet) { n.Grips[0] = s })
		add(func(n *api.AnchorNet) { n.Grips = append(n.Grips, s) }) // no anchor lies there
	}
	for _, m := range beyond(api.MaxAnchorWeight) {
		add(func(n *api.AnchorNet) { n.Anchors[2].Weight = m })
	}
	for _, m := range beyond(1) {
		add(func(n *api.AnchorNet) { n.Anchors[0].Bottom = m })
	}
	for _, m := range beyond(api.MaxAnchorPart) {
		add(func(n *api.AnchorNet) { n.Walls[0].Sail = m })
		add(func(n *api.AnchorNet) { n.Walls[1].Drag = m })
		add(func(n *api.AnchorNet) { n.Walls[0].Lean = m })
	}
	for _, m := range beyond(api.MaxAnchorCorks) {
		add(func(n *api.AnchorNet) { n.Walls[1].Corks = m })
		add(func(n *api.AnchorNet) { n.Walls[0].Stones = m })
	}
	add(func(n *api.AnchorNet) { n.Walls = n.Walls[:1] })
	add(func(n *api.AnchorNet) { n.Walls = nil })
	add(func(n *api.AnchorNet) { n.Walls = append(n.Walls, wall(0, 0, 0, 0, 0)) })
	add(func(n *api.AnchorNet) { n.Anchors = nil })
	add(func(n *api.AnchorNet) { n.Anchors, n.Walls = nil, n.Walls[:1] }) // a wall without anchors
	add(func(n *api.AnchorNet) { n.Anchors = n.Anchors[:1] })
	add(func(n *api.AnchorNet) { n.Grips = nil })
	add(func(n *api.AnchorNet) { n.Grips, n.Anchors, n.Walls = nil, n.Anchors[:1], nil })
	add(func(n *api.AnchorNet) { n.Grips = slices.Repeat(n.Grips[:1], 4) })
	many := largest()
	many.Anchors, many.Walls = append(many.Anchors, anchor(20, 2)), append(many.Walls, wall(9, 9, 9, 99, 99))
	return append(nets, many)
}

// P2.1, and ErrAnchor before all others.
func TestInvalidNets(t *testing.T) {
	odd := args{wall: -1, wind: -1, current: -1, anchor: -1, truth: truth(-1, -1)}
	for i, n := range invalid() {
		if e := anchors.Check(n); e != api.ErrAnchor {
			t.Errorf("%d: Check of %v: %d", i, n, e)
		}
		for _, a := range slices.Concat(callAll(n, args{truth: truth(2, 1, 2, 1)}), callAll(n, odd)) {
			if a.e != api.ErrAnchor || !isZero(a.result) {
				t.Errorf("%d: %s = %v, %d", i, a.name, a.result, a.e)
			}
		}
	}
}

// P2.1: what is just valid.
func TestValidNets(t *testing.T) {
	nets := []api.AnchorNet{
		{}, netN(), largest(), {Wind: span(0, 20), Current: span(0, 20)}, {Grips: slices.Repeat([]api.Span{span(0, 9)}, 3)},
		still(0, []int{0}), still(9, []int{20}), still(0, []int{0, 0}, wall(0, 0, 0, 0, 0)), still(3, []int{1, 2}, wall(9, 9, 9, 99, 0)),
		netWith(func(n *api.AnchorNet) { n.Wind, n.Current = span(20, 20), span(0, 0) }),
		netWith(func(n *api.AnchorNet) { n.Grips = append(n.Grips, span(4, 4)) }),
	}
	for i, n := range nets {
		if e := anchors.Check(n); e != api.OK {
			t.Errorf("%d: Check: %d", i, e)
		}
	}
}

// isArg checks that calls by these names return ErrArg.
func isArg(t *testing.T, n api.AnchorNet, a args, names ...string) {
	t.Helper()
	for _, got := range callAll(n, a) {
		if slices.Contains(names, got.name) && (got.e != api.ErrArg || !isZero(got.result)) {
			t.Errorf("%s with %v = %v, %d", got.name, a, got.result, got.e)
		}
	}
}

// ErrArg for anchors, walls, winds and currents that are none.
func TestWrongArguments(t *testing.T) {
	fits := truth(2, 1, 2, 1)
	for _, m := range beyond(2) {
		isArg(t, netN(), args{anchor: m, truth: fits}, "Pulled", "Drag", "Spare")
	}
	for _, m := range beyond(1) {
		isArg(t, netN(), args{wall: m}, "Load", "Upright")
	}
	for _, m := range beyond(api.MaxAnchorForce) {
		isArg(t, netN(), args{wind: m}, "Load")
		isArg(t, netN(), args{current: m}, "Load")
	}
	isArg(t, api.AnchorNet{}, args{}, "Load", "Upright", "Pulled", "Drag", "Spare")
	isArg(t, still(1, []int{1}), args{truth: truth(0, 0, 1)}, "Load", "Upright")
}

// ErrArg for truths that are none of the net, also before ErrNone.
func TestWrongTruths(t *testing.T) {
	for _, wrong := range []api.AnchorTruth{
		{}, truth(1, 1, 2, 1), truth(5, 1, 2, 1), truth(2, 0, 2, 1), truth(2, 4, 2, 1), truth(2, 1, 1, 1), truth(2, 1, 4, 1),
		truth(2, 1, 2, 0), truth(2, 1, 2, 5), truth(2, 1), truth(2, 1, 2), truth(2, 1, 2, 1, 1), truth(2, 1, 2, 1, 0),
		truth(math.MinInt, 1, 2, 1), truth(2, math.MaxInt, 2, 1), truth(2, 1, math.MaxInt, 1), truth(2, 1, 2, math.MinInt),
	} {
		isArg(t, netN(), args{truth: wrong}, "First", "Drags", "Pulled", "Key")
	}
	for _, wrong := range []api.AnchorTruth{truth(1, 0), truth(0, 1), truth(0, 0, 0), truth(-1, 0)} {
		isArg(t, api.AnchorNet{}, args{truth: wrong}, "First", "Drags", "Key")
	}
}

// sameAnswers reports whether answers are the same; R3: a nil list is an empty one.
func sameAnswers(some, others []answer) bool {
	return slices.EqualFunc(some, others, func(a, b answer) bool {
		return a.name == b.name && a.e == b.e && (isZero(a.result) && isZero(b.result) || reflect.DeepEqual(a.result, b.result))
	})
}

// Nets without anchors, without walls, and without bottoms.
func TestSmallNets(t *testing.T) {
	bare := []answer{
		{"Load", 0, api.ErrArg}, {"Upright", 0, api.ErrArg}, {"First", []int(nil), 0}, {"Drags", []int(nil), 0}, {"Pulled", []int(nil), api.ErrArg},
		{"Key", 0, api.ErrNone}, {"Drag", 0, api.ErrArg}, {"Safe", api.Surely, 0}, {"Spare", span(0, 0), api.ErrArg}, {"Wind", 0, api.ErrNone},
		{"Storm", 0, api.ErrNone}, {"Help", 0, api.ErrNone}, {"Need", []int(nil), 0},
	}
	for _, n := range []api.AnchorNet{{}, {Wind: span(0, 20), Current: span(0, 20)}} {
		if got := callAll(n, args{truth: truth(0, 0)}); !sameAnswers(got, bare) {
			t.Errorf("%v, not %v", got, bare)
		}
	}
	one := still(0, []int{0})
	want := []answer{
		{"Load", 0, api.ErrArg}, {"Upright", 0, api.ErrArg}, {"First", []int(nil), 0}, {"Drags", []int(nil), 0}, {"Pulled", []int{0}, 0},
		{"Key", 0, 0}, {"Drag", api.Never, 0}, {"Safe", api.Surely, 0}, {"Spare", span(0, 0), 0}, {"Wind", 0, api.ErrNone},
		{"Storm", 0, api.ErrNone}, {"Help", 0, api.ErrNone}, {"Need", []int{0}, 0},
	}
	if got := callAll(one, args{truth: truth(0, 0, 0)}); !sameAnswers(got, want) {
		t.Errorf("%v, not %v", got, want)
	}
}

// P1: any arguments, none of which panics or goes on for ever.
func TestAnyArguments(t *testing.T) {
	numbers := []int{math.MinInt, math.MinInt + 1, -1, 0, 1, 2, 3, 9, 20, 21, 99, 100, math.MaxInt - 1, math.MaxInt}
	nets := append(invalid(), netN(), largest(), still(0, []int{0}), api.AnchorNet{})
	for _, n := range nets {
		for _, p := range numbers {
			for _, q := range numbers {
				callAll(n, args{wall: p, wind: q, current: p, anchor: q, truth: truth(p, q, p, q)})
				callAll(n, args{wall: q, wind: q, current: q, anchor: p, truth: truth(2, 1, 2, q)})
			}
		}
	}
	for _, p := range numbers {
		for _, q := range numbers {
			odd := api.AnchorNet{
				Wind: span(p, q), Current: span(q, p), Grips: []api.Span{span(p, q)},
				Anchors: []api.Anchor{anchor(p, q), anchor(q, p)}, Walls: []api.AnchorWall{wall(p, q, p, q, p)},
			}
			callAll(odd, args{wall: p, wind: q, current: p, anchor: q, truth: truth(p, q, p)})
		}
	}
}

// R4: no argument is changed, and a result is new memory.
func TestMemory(t *testing.T) {
	n, a := netN(), args{truth: truth(4, 3, 2, 1)}
	n.Anchors = append(n.Anchors, anchor(7, 1))[:3] // with room behind it
	before := lists(callAll(n, a))
	if !reflect.DeepEqual(n, netN()) || n.Anchors[:4][3] != anchor(7, 1) || !reflect.DeepEqual(a.truth, truth(4, 3, 2, 1)) {
		t.Errorf("the net or the truth was changed: %v, %v", n, a.truth)
	}
	for i, list := range before {
		for j := range list {
			list[j] = -7 - i
		}
	}
	again := lists(callAll(n, a))
	if want := [][]int{{1}, {1, 2}, {0, 1, 2}, {0, 6, 0}}; !reflect.DeepEqual(again, want) {
		t.Errorf("%v, behind changes of what was returned before", again)
	}
	if want := [][]int{{-7}, {-8, -8}, {-9, -9, -9}, {-10, -10, -10}}; !reflect.DeepEqual(before, want) {
		t.Errorf("results share memory: %v", before)
	}
}

// lists returns all lists that were returned: of First, Drags, Pulled and Need.
func lists(answers []answer) [][]int {
	var all [][]int
	for _, got := range answers {
		if list, is := got.result.([]int); is {
			all = append(all, list)
		}
	}
	return all
}

// R3: a nil list and an empty one are the same.
func TestNilAndEmpty(t *testing.T) {
	empty := api.AnchorNet{Grips: []api.Span{}, Anchors: []api.Anchor{}, Walls: []api.AnchorWall{}}
	a, b := callAll(api.AnchorNet{}, args{}), callAll(empty, args{truth: truth(0, 0, []int{}...)})
	if !sameAnswers(a, b) {
		t.Errorf("%v is not %v", a, b)
	}
	one := still(1, []int{1})
	one.Walls = []api.AnchorWall{}
	if a, b := callAll(one, args{truth: truth(0, 0, 1)}), callAll(still(1, []int{1}), args{truth: truth(0, 0, 1)}); !sameAnswers(a, b) {
		t.Errorf("%v is not %v", a, b)
	}
}

// number checks a number that was returned.
func number(t *testing.T, name string, got int, e api.Errno, want int) {
	t.Helper()
	if got != want || e != api.OK {
		t.Errorf("%s = %d, %d, not %d", name, got, e, want)
	}
}

// numbers checks a list that was returned.
func numbers(t *testing.T, name string, got []int, e api.Errno, want ...int) {
	t.Helper()
	if !slices.Equal(got, want) || e != api.OK {
		t.Errorf("%s = %v, %d, not %v", name, got, e, want)
	}
}

// none checks that nothing was returned but an error.
func none(t *testing.T, name string, got int, e, want api.Errno) {
	t.Helper()
	if got != 0 || e != want {
		t.Errorf("%s = %d, %d, not the error %d", name, got, e, want)
	}
}

// The examples of the chapter.
func TestExamples(t *testing.T) {
	n, a, b := netN(), truth(4, 3, 2, 1), truth(2, 1, 3, 4)
	for i, want := range []int{11, 10} {
		pounds, e := anchors.Load(n, i, 4, 3)
		number(t, "Load", pounds, e, want)
	}
	for i, want := range []int{api.Perhaps, api.Surely} {
		is, e := anchors.Upright(n, i)
		number(t, "Upright", is, e, want)
	}
	first, e := anchors.First(n, a)
	numbers(t, "First of A", first, e, 1)
	drags, e := anchors.Drags(n, a)
	numbers(t, "Drags of A", drags, e, 1, 2)
	drags, e = anchors.Drags(n, b)
	numbers(t, "Drags of B", drags, e)
	pulled, e := anchors.Pulled(n, a, 0)
	numbers(t, "Pulled of A", pulled, e, 0, 1, 2)
	pulled, e = anchors.Pulled(n, b, 1)
	numbers(t, "Pulled of B", pulled, e, 1)
	key, e := anchors.Key(n, a)
	number(t, "Key of A", key, e, 0)
	for i, want := range []int{api.Never, api.Perhaps, api.Perhaps} {
		is, e := anchors.Drag(n, i)
		number(t, "Drag", is, e, want)
	}
	safe, e := anchors.Safe(n)
	number(t, "Safe", safe, e, api.Perhaps)
	for i, want := range []api.Span{span(13, 31), span(-11, 31), span(6, 20)} {
		if s, e := anchors.Spare(n, i); s != want || e != api.OK {
			t.Errorf("Spare of %d = %v, %d", i, s, e)
		}
	}
	wind, e := anchors.Wind(n)
	number(t, "Wind", wind, e, 1)
	storm, e := anchors.Storm(n)
	number(t, "Storm", storm, e, 13)
	help, e := anchors.Help(n)
	number(t, "Help", help, e, 1)
	need, e := anchors.Need(n)
	numbers(t, "Need", need, e, 0, 6, 0)
}

// P2.2: at the limits, and outside what wind and current of the net are.
func TestLoad(t *testing.T) {
	for i, x := range []struct{ wall, wind, current, want int }{
		{0, 0, 0, 0}, {0, 20, 0, 40}, {0, 0, 20, 20}, {0, 20, 20, 60}, {1, 20, 20, 60}, {1, 1, 0, 1}, {1, 0, 1, 2}, {0, 3, 2, 8},
	} {
		pounds, e := anchors.Load(netN(), x.wall, x.wind, x.current)
		if pounds != x.want || e != api.OK {
			t.Errorf("%d: Load = %d, %d", i, pounds, e)
		}
	}
	pounds, e := anchors.Load(largest(), 4, 20, 20)
	number(t, "Load", pounds, e, 360)
}

// P2.3: corks that are just enough, and just not too many.
func TestUpright(t *testing.T) {
	for i, x := range []struct {
		current             api.Span
		lean, corks, stones int
		want                int
	}{
		{span(1, 3), 3, 9, 9, api.Surely}, {span(1, 3), 3, 8, 99, api.Perhaps}, {span(1, 3), 3, 3, 3, api.Perhaps},
		{span(1, 3), 3, 2, 99, api.Never}, {span(1, 3), 3, 9, 8, api.Never}, {span(1, 3), 3, 99, 98, api.Never},
		{span(1, 3), 0, 0, 0, api.Surely}, {span(1, 3), 0, 1, 0, api.Never}, {span(0, 0), 9, 0, 0, api.Surely},
		{span(0, 20), 9, 0, 0, api.Perhaps}, {span(0, 20), 9, 99, 99, api.Perhaps}, {span(0, 11), 9, 99, 99, api.Surely},
		{span(12, 20), 9, 99, 99, api.Never}, {span(0, 20), 1, 20, 20, api.Surely}, {span(2, 2), 3, 6, 6, api.Surely}, {span(2, 2), 3, 5, 6, api.Never},
	} {
		n := still(1, []int{0, 0, 0}, wall(0, 0, 9, 0, 0), wall(9, 9, x.lean, x.corks, x.stones))
		n.Current = x.current
		is, e := anchors.Upright(n, 1)
		if is != x.want || e != api.OK {
			t.Errorf("%d: Upright = %d, %d", i, is, e)
		}
	}
}

// P2.4 to P2.7: who drags at first, who comes along, and who would.
func TestDragsAlong(t *testing.T) {
	for i, x := range []struct {
		n            api.AnchorNet
		first, drags []int
		pulled       [][]int // of each anchor
		key          int
	}{
		{sails([]int{2, 2, 2}, 3, 1), nil, nil, [][]int{{0, 1}, {0, 1}, {0, 1, 2}}, 2},
		{sails([]int{1, 2, 2}, 3, 1), []int{0}, []int{0, 1}, [][]int{{0, 1}, {0, 1}, {0, 1, 2}}, 2},
		{sails([]int{1, 1}, 2), nil, nil, [][]int{{0, 1}, {0, 1}}, 0},                                                            // as much as both can bear, and no more
		{sails([]int{0, 5}, 5), []int{0}, []int{0}, [][]int{{0}, {0, 1}}, 1},                                                     // the whole load, and no more
		{sails([]int{0, 4}, 5), []int{0}, []int{0, 1}, [][]int{{0, 1}, {0, 1}}, 0},                                               // the whole load is too much
		{sails([]int{0, 0}, 0), nil, nil, [][]int{{0}, {1}}, 0},                                                                  // nothing to bear
		{sails([]int{0, 3, 3, 3, 3, 3}, 3, 3, 3, 3, 3), []int{0}, []int{0, 1, 2, 3, 4}, nil, -1},                                 // the last one bears just 6
		{sails([]int{3, 3, 3, 3, 3, 0}, 3, 3, 3, 3, 3), []int{5}, []int{1, 2, 3, 4, 5}, nil, -1},                                 // the same, from the other end
		{sails([]int{9, 0, 9, 0, 9}, 4, 4, 4, 4), []int{1, 3}, []int{1, 3}, [][]int{{0, 1, 3}, {1, 3}, {1, 2, 3}, nil, nil}, -1}, // between two that have dragged
		{sails([]int{9, 0, 7, 0, 9}, 4, 4, 4, 4), []int{1, 3}, []int{1, 2, 3}, nil, -1},
		{sails([]int{4, 4, 4, 4}, 5, 0, 5), nil, nil, [][]int{{0, 1}, {0, 1}, {2, 3}, {2, 3}}, 0},
	} {
		at := truth(1, 0, 1)
		first, e := anchors.First(x.n, at)
		drags, f := anchors.Drags(x.n, at)
		if !slices.Equal(first, x.first) || e != api.OK || !slices.Equal(drags, x.drags) || f != api.OK {
			t.Errorf("%d: First = %v, %d; Drags = %v, %d", i, first, e, drags, f)
		}
		for j, want := range x.pulled {
			if pulled, e := anchors.Pulled(x.n, at, j); want != nil && !slices.Equal(pulled, want) || e != api.OK {
				t.Errorf("%d: Pulled of %d = %v, %d", i, j, pulled, e)
			}
		}
		if key, e := anchors.Key(x.n, at); x.key >= 0 && key != x.key || e != api.OK {
			t.Errorf("%d: Key = %d, %d", i, key, e)
		}
	}
}

// P2.8 and P2.9: nets that surely drag, that never do, and that drag in one truth alone.
func TestSafe(t *testing.T) {
	loose := sails([]int{1, 1}, 2)
	for i, x := range []struct {
		wind, grip api.Span
		want, safe int
	}{
		{span(1, 1), span(1, 1), api.Never, api.Surely}, {span(2, 2), span(1, 1), api.Surely, api.Never}, {span(1, 2), span(1, 1), api.Perhaps, api.Perhaps},
		{span(2, 2), span(1, 2), api.Perhaps, api.Perhaps}, {span(2, 2), span(2, 9), api.Never, api.Surely}, {span(0, 20), span(0, 9), api.Perhaps, api.Perhaps},
		{span(3, 20), span(0, 2), api.Surely, api.Never}, {span(0, 9), span(9, 9), api.Never, api.Surely}, {span(1, 20), span(0, 0), api.Surely, api.Never},
	} {
		loose.Wind, loose.Grips[0] = x.wind, x.grip
		is, e := anchors.Drag(loose, 1)
		safe, f := anchors.Safe(loose)
		if is != x.want || e != api.OK || safe != x.safe || f != api.OK {
			t.Errorf("%d: Drag = %d, %d; Safe = %d, %d", i, is, e, safe, f)
		}
	}
	along := sails([]int{0, 2, 4}, 4, 0) // the anchor 1 does not drag of itself
	for i, want := range []int{api.Surely, api.Surely, api.Never} {
		is, e := anchors.Drag(along, i)
		number(t, "Drag", is, e, want)
	}
}

// P2.10: at the limits.
func TestSpare(t *testing.T) {
	loose := largest()
	loose.Wind, loose.Current, loose.Grips = span(0, 20), span(0, 20), []api.Span{span(0, 0), span(0, 0), span(0, 9)}
	for i, want := range []api.Span{span(-360, 360), span(-720, 360), span(-720, 360), span(-720, 360), span(-720, 360), span(-360, 360)} {
		if s, e := anchors.Spare(loose, i); s != want || e != api.OK {
			t.Errorf("Spare of %d = %v, %d", i, s, e)
		}
	}
}

// P2.11 and P2.12: the first and the last wind, none, and the wind of the net, which is not looked at.
func TestWindAndStorm(t *testing.T) {
	for i, x := range []struct {
		sail, drag, weight int
		current, grip      api.Span
		wind, storm        int // -1: there is none
	}{
		{1, 0, 10, span(0, 0), span(1, 1), -1, -1}, {2, 0, 19, span(0, 0), span(1, 1), 20, 20}, {2, 0, 20, span(0, 0), span(1, 1), -1, -1},
		{1, 0, 0, span(0, 0), span(9, 9), 1, 1}, {0, 1, 0, span(1, 1), span(0, 9), 0, 0}, {0, 1, 0, span(0, 1), span(0, 9), 0, -1},
		{9, 9, 20, span(0, 0), span(0, 9), 1, -1}, {9, 9, 20, span(20, 20), span(0, 9), 0, -1}, {9, 9, 3, span(3, 7), span(1, 2), 0, 0}, {2, 1, 3, span(1, 3), span(1, 2), 2, 6},
		{2, 0, 3, span(0, 20), span(1, 2), 4, 7}, {0, 0, 0, span(0, 20), span(0, 9), -1, -1},
	} {
		for _, wind := range []api.Span{span(0, 0), span(20, 20), span(0, 20)} {
			n := still(0, []int{x.weight, x.weight}, wall(x.sail, x.drag, 0, 0, 0))
			n.Wind, n.Current, n.Grips[0] = wind, x.current, x.grip
			isWind(t, i, "Wind", anchors.Wind, n, x.wind)
			isWind(t, i, "Storm", anchors.Storm, n, x.storm)
		}
	}
}

// isWind checks a wind that is returned, or ErrNone if it is below 0.
func isWind(t *testing.T, i int, name string, of func(api.AnchorNet) (int, api.Errno), n api.AnchorNet, want int) {
	t.Helper()
	err := api.OK
	if want < 0 {
		want, err = 0, api.ErrNone
	}
	if wind, e := of(n); wind != want || e != err {
		t.Errorf("%d: %s = %d, %d, not %d, %d", i, name, wind, e, want, err)
	}
}

// P2.13: which one of several, only those that can be heavier, and the errors in their order.
func TestHelp(t *testing.T) {
	for i, x := range []struct {
		n    api.AnchorNet
		want int
		e    api.Errno
	}{
		{sails([]int{3, 3}, 1), 0, api.OK},       // either alone is of no use
		{sails([]int{3, 2}, 1), 1, api.OK},       // the wind is 5 then, not 4
		{sails([]int{2, 3}, 1), 0, api.OK},       // the same, from the other end
		{sails([]int{9, 10}, 1), 0, api.OK},      // no wind is too much then
		{sails([]int{5, 4, 5}, 1, 0), 1, api.OK}, // the third one bears nothing
		{sails([]int{1, 1, 0, 1}, 1, 1, 1), 2, api.OK},
		{sails([]int{20, 3, 20}, 9, 9), 1, api.OK},
		{sails([]int{20, 20, 20}, 9, 9), 0, api.ErrMany},
		{sails([]int{20, 20, 1}, 9, 0), 2, api.OK}, // of no use, but all others are as heavy as can be
		{sails([]int{20, 20}, 2), 0, api.ErrNone},  // also if none can be heavier
		{sails([]int{10, 10}, 1), 0, api.ErrNone},
		{api.AnchorNet{}, 0, api.ErrNone},
		{still(0, []int{19, 20}, wall(0, 1, 0, 0, 0)), 0, api.ErrNone},
	} {
		if help, e := anchors.Help(x.n); help != x.want || e != x.e {
			t.Errorf("%d: Help = %d, %d", i, help, e)
		}
	}
}

// P2.14: as heavy as can be and no more, a bottom that grips nothing, and nothing to bear.
func TestNeed(t *testing.T) {
	for i, x := range []struct {
		n    api.AnchorNet
		grip int
		want []int
		e    api.Errno
	}{
		{sails([]int{0, 0}, 8), 1, []int{4, 4}, api.OK}, {sails([]int{1, 4}, 8), 1, []int{3, 0}, api.OK}, {sails([]int{5, 20}, 8), 1, []int{0, 0}, api.OK},
		{sails([]int{0, 0}, 9), 1, []int{5, 5}, api.OK}, {sails([]int{0, 0}, 8), 3, []int{2, 2}, api.OK}, {sails([]int{0, 0}, 9), 9, []int{1, 1}, api.OK},
		{sails([]int{0, 0}, 1), 0, nil, api.ErrNone}, {sails([]int{20, 20}, 1), 0, nil, api.ErrNone}, {sails([]int{0, 0}, 0), 0, []int{0, 0}, api.OK},
		{sails([]int{0, 3, 0}, 4, 5), 1, []int{2, 2, 3}, api.OK},
	} {
		x.n.Grips[0] = span(x.grip, 9)
		x.n.Wind.Low = 0
		if need, e := anchors.Need(x.n); !slices.Equal(need, x.want) || e != x.e {
			t.Errorf("%d: Need = %v, %d", i, need, e)
		}
	}
	full := sails([]int{20, 0, 20}, 4, 4)
	for wind, want := range map[int][]int{5: {0, 20, 0}, 6: nil, 0: {0, 0, 0}} {
		full.Wind = span(wind, wind)
		err := api.OK
		if want == nil {
			err = api.ErrNone
		}
		if need, e := anchors.Need(full); !slices.Equal(need, want) || e != err {
			t.Errorf("Need in the wind %d = %v, %d", wind, need, e)
		}
	}
}

// P2.7, P2.11 to P2.14: the errors have zero values.
func TestNone(t *testing.T) {
	key, e := anchors.Key(api.AnchorNet{}, truth(0, 0))
	none(t, "Key", key, e, api.ErrNone)
	calm := still(9, []int{1, 1}, wall(0, 0, 0, 0, 0))
	wind, e := anchors.Wind(calm)
	none(t, "Wind", wind, e, api.ErrNone)
	storm, e := anchors.Storm(calm)
	none(t, "Storm", storm, e, api.ErrNone)
	help, e := anchors.Help(sails([]int{20, 20, 20}, 0, 9))
	none(t, "Help", help, e, api.ErrMany)
	mixed := sails([]int{0, 0, 0}, 1, 1) // the anchor 0 alone can be heavy enough
	mixed.Grips = append(mixed.Grips, span(0, 9))
	mixed.Anchors[1].Bottom = 1
	if need, e := anchors.Need(mixed); len(need) > 0 || e != api.ErrNone {
		t.Errorf("Need = %v, %d", need, e)
	}
}
