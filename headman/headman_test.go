package headman_test

import (
	"math"
	"reflect"
	"slices"
	"strings"
	"testing"

	"almadraba/api"
	"almadraba/headman"
)

func span(low, high int) api.Span { return api.Span{Low: low, High: high} }

func hole(from, low, high, hours int) api.MeshHole {
	return api.MeshHole{From: from, Rate: span(low, high), Hours: hours}
}

// town is the one of the chapter's examples.
func town() api.HeadTown {
	return api.HeadTown{
		Net: api.AnchorNet{
			Wind: span(2, 4), Current: span(1, 3), Grips: []api.Span{span(2, 3), span(1, 4)},
			Anchors: []api.Anchor{{Weight: 6}, {Weight: 5, Bottom: 1}, {Weight: 4}},
			Walls:   []api.AnchorWall{{Sail: 2, Drag: 1, Lean: 3, Corks: 8, Stones: 9}, {Sail: 1, Drag: 2, Lean: 2, Corks: 6, Stones: 6}},
		},
		Torn: api.MeshNet{
			Menders: 1, Holes: []api.MeshHole{hole(0, 2, 3, 2), hole(0, 5, 6, 3), hole(1, 4, 8, 1)}, Pairs: []api.MeshPair{{A: 0, B: 2}},
		},
		House: api.SaltHouse{
			Kinds: []api.SaltKind{{Salt: 3, Days: 10}, {Salt: 5, Days: 4}}, Floor: 2,
			Parts: []api.SaltPart{{Pounds: 10}, {Pounds: 15}, {Kind: 1, Pounds: 8}}, Barrels: []int{40, 20},
		},
	}
}

// townWith is this town with something changed.
func townWith(change func(t *api.HeadTown)) api.HeadTown {
	t := town()
	change(&t)
	return t
}

// bare is a town with nothing in it that need not be.
func bare() api.HeadTown { return api.HeadTown{Torn: api.MeshNet{Menders: 1}} }

// largest is a town with as much of everything as there can be.
func largest() api.HeadTown {
	return api.HeadTown{
		Net: api.AnchorNet{
			Wind: span(0, 20), Current: span(0, 20), Grips: slices.Repeat([]api.Span{span(0, 9)}, 3),
			Anchors: slices.Repeat([]api.Anchor{{Weight: 20, Bottom: 2}}, 6),
			Walls:   slices.Repeat([]api.AnchorWall{{Sail: 9, Drag: 9, Lean: 9, Corks: 99, Stones: 99}}, 5),
		},
		Torn: api.MeshNet{
			Menders: 3, Holes: slices.Repeat([]api.MeshHole{hole(20, 0, 20, 9)}, 6), Pairs: slices.Repeat([]api.MeshPair{{A: 5, B: 4}}, 8),
		},
		House: api.SaltHouse{
			Kinds: slices.Repeat([]api.SaltKind{{Salt: 9, Days: 20}}, 3), Floor: 9,
			Parts: slices.Repeat([]api.SaltPart{{Kind: 2, Pounds: 40}}, 6), Barrels: []int{99, 99, 99, 99},
		},
	}
}

// result is what a call returned.
type result struct {
	answers []string
	after   api.HeadTown
	left    []string
}

// run does lines without an error, and checks that there is an answer to each, and that the town is valid.
func run(t *testing.T, start api.HeadTown, lines ...string) result {
	t.Helper()
	answers, after, left, e := headman.Run(start, lines)
	if e != api.OK || len(answers) != len(lines) || headman.Check(after) != api.OK {
		t.Fatalf("%v: Run of %q = %q, %v, %q, %d", start, lines, answers, after, left, e)
	}
	return result{answers, after, left}
}

// same reports whether two towns are the same; an empty list is a nil list.
func same(a, b api.HeadTown) bool {
	return a.Net.Wind == b.Net.Wind && a.Net.Current == b.Net.Current && a.Torn.Menders == b.Torn.Menders && a.House.Floor == b.House.Floor &&
		slices.Equal(a.Net.Grips, b.Net.Grips) && slices.Equal(a.Net.Anchors, b.Net.Anchors) && slices.Equal(a.Net.Walls, b.Net.Walls) &&
		slices.Equal(a.Torn.Holes, b.Torn.Holes) && slices.Equal(a.Torn.Pairs, b.Torn.Pairs) &&
		slices.Equal(a.House.Kinds, b.House.Kinds) && slices.Equal(a.House.Parts, b.House.Parts) && slices.Equal(a.House.Barrels, b.House.Barrels)
}

// answered checks the answers to lines, and returns what else was returned.
func answered(t *testing.T, start api.HeadTown, rows ...[2]string) result {
	t.Helper()
	var lines, want []string
	for _, row := range rows {
		lines, want = append(lines, row[0]), append(want, row[1])
	}
	got := run(t, start, lines...)
	for i, answer := range got.answers {
		if answer != want[i] {
			t.Errorf("%d: %q is answered %q, not %q", i, lines[i], answer, want[i])
		}
	}
	return got
}

// isLeft checks which orders still stand.
func (r result) isLeft(t *testing.T, want ...string) {
	t.Helper()
	if !slices.Equal(r.left, want) {
		t.Errorf("the orders %q stand, not %q", r.left, want)
	}
}

// isTown checks the town at last.
func (r result) isTown(t *testing.T, want api.HeadTown) {
	t.Helper()
	if !same(r.after, want) {
		t.Errorf("the town is %v, not %v", r.after, want)
	}
}

// The examples of the chapter.
func TestExamples(t *testing.T) {
	got := answered(t, town(), [][2]string{
		{"safe", "3"}, {"storm", "1"}, {"need", "0 6 0"}, {"loss", "58"}, {"order", "0 2 1"}, {"done", "6"},
		{"when loss > 50 then menders 2", "ok 0:ok"}, {"loss", "40"}, {"when safe = 1 then wind 0 9", "ok"}, {"forget 0", "no"},
		{"heavy 1 11", "ok 1:ok"}, {"safe", "3"}, {"heavy 3 1", "no"},
		{"mended", "ok"}, {"loss", "26"}, {"part 1 8", "ok"}, {"salt", "none"}, {"buy", "14"},
		{"when buy > 0 then barrel 14", "ok 2:ok"}, {"salt", "22"}, {"pack", "0 0 1 2"}, {"early 4", "16"}, {"early 21", "wrong"}, {"sail", "what"},
	}...)
	got.isLeft(t)
	got.isTown(t, townWith(func(t *api.HeadTown) {
		t.Net.Wind, t.Net.Anchors[1].Weight = span(0, 9), 11
		t.Torn = api.MeshNet{Menders: 2, Holes: []api.MeshHole{hole(0, 5, 6, 3), hole(1, 4, 8, 1)}}
		t.House.Parts, t.House.Barrels = append(t.House.Parts, api.SaltPart{Kind: 1, Pounds: 8}), []int{40, 20, 14}
	}))
}

// invalid has towns that are not valid, each for one reason.
func invalid() []api.HeadTown {
	list := []api.HeadTown{{}}
	for _, change := range []func(t *api.HeadTown){
		func(t *api.HeadTown) { t.Net.Wind = span(4, 2) }, func(t *api.HeadTown) { t.Net.Current.High = 21 },
		func(t *api.HeadTown) { t.Net.Grips[1] = span(-1, 4) }, func(t *api.HeadTown) { t.Net.Anchors[2].Bottom = 2 },
		func(t *api.HeadTown) { t.Net.Anchors[0].Weight = math.MaxInt }, func(t *api.HeadTown) { t.Net.Walls = nil },
		func(t *api.HeadTown) { t.Torn.Menders = 0 }, func(t *api.HeadTown) { t.Torn.Menders = 4 },
		func(t *api.HeadTown) { t.Torn.Holes[2].Hours = 0 }, func(t *api.HeadTown) { t.Torn.Holes[0].Rate = span(math.MinInt, math.MaxInt) },
		func(t *api.HeadTown) { t.Torn.Pairs[0].B = 3 }, func(t *api.HeadTown) { t.Torn.Pairs[0].B = 0 },
		func(t *api.HeadTown) { t.House.Kinds[1].Salt = 10 }, func(t *api.HeadTown) { t.House.Floor = -1 },
		func(t *api.HeadTown) { t.House.Parts[2].Kind = 2 }, func(t *api.HeadTown) { t.House.Barrels[0] = 100 },
	} {
		list = append(list, townWith(change))
	}
	return list
}

// isError checks that Run returns nothing but an error.
func isError(t *testing.T, start api.HeadTown, lines []string, want api.Errno) {
	t.Helper()
	answers, after, left, e := headman.Run(start, lines)
	if e != want || len(answers)+len(left) > 0 || !reflect.DeepEqual(after, api.HeadTown{}) {
		t.Errorf("%v: Run of %q = %q, %v, %q, %d, not the error %d", start, lines, answers, after, left, e, want)
	}
}

// P12.1, and ErrHead before ErrMany.
func TestInvalidTowns(t *testing.T) {
	for i, start := range invalid() {
		if e := headman.Check(start); e != api.ErrHead {
			t.Errorf("%d: Check of %v: %d", i, start, e)
		}
		isError(t, start, nil, api.ErrHead)
		isError(t, start, []string{"safe", "wind 2 3", "menders 1", "sail"}, api.ErrHead)
		isError(t, start, make([]string, 31), api.ErrHead)
	}
}

// P12.1: what is just valid.
func TestValidTowns(t *testing.T) {
	for i, start := range []api.HeadTown{town(), bare(), largest()} {
		if e := headman.Check(start); e != api.OK {
			t.Errorf("%d: Check of %v: %d", i, start, e)
		}
		got := run(t, start)
		got.isLeft(t)
		got.isTown(t, start)
	}
}

// P12.2: as many lines as there can be, whatever they are, and one more.
func TestManyLines(t *testing.T) {
	for _, line := range []string{"safe", "", "wind 0 0", "forget 0", "when loss < 0 then mended"} {
		lines := slices.Repeat([]string{line}, 31)
		run(t, town(), lines[:30]...)
		isError(t, town(), lines, api.ErrMany)
	}
	isError(t, bare(), make([]string, 100000), api.ErrMany)
}

// unclear has lines that are not of any of the forms.
func unclear() []string {
	list := []string{
		"", " ", "  ", "sail", "SAFE", "Safe", "saf", "safes", "safe ", " safe", "safe  ", "safe 1", "safe safe", "safe\n", "\tsafe", "safe\x00", "\xff", "é",
		"storm 0", "need 0", "loss 1", "order 0", "done done", "salt 5", "pack 0", "buy 1", "early", "early ", "early x", "early 1 2", "early  1", "early 1 ",
		"mended 0", "mended ", "menders", "menders 1 1", "barrel", "barrel 1 2", "part 0", "part", "part 0 1 2", "rope 0", "rope 0 1 2", "heavy 1", "heavy 1 2 3",
		"torn 0 1 2", "torn 0 1 2 3 4", "torn", "current 1", "current 1 2 3", "wind", "wind ", "wind 1", "wind 1 2 3", "wind  1 2", "wind 1  2", "wind 1 2 ", " wind 1 2",
		"wind\t1 2", "wind 1\t2", "wind 1 2\n", "wind 1,2", "wind1 2", "wind 1 x", "wind x 2", "forget", "forget ", "forget x", "forget 0 1", "forget  0", "forget all",
		"1", "0 wind 1", "wind 1 then mended", "then", "then mended", "ok", "what", "0:ok",
	}
	for _, number := range wrongNumbers() {
		list = append(list, "menders "+number, "wind "+number+" 2", "wind 2 "+number, "torn 0 1 2 "+number, "early "+number, "forget "+number,
			"when loss > "+number+" then mended", "when early "+number+" > 3 then mended", "when loss > 5 then menders "+number)
	}
	return append(list, unclearOrders()...)
}

// wrongNumbers has texts that are not numbers.
func wrongNumbers() []string {
	return []string{
		"", "-", "+", "+1", "-0", "00", "01", "-01", "007", "--1", "- 1", "1-", "1.0", "1e2", "0x1", "1_0", "1,0", "one", "A", "1000000", "-1000000", "0000001", "9999999",
		"99999999999999999999", "-99999999999999999999", "9223372036854775807", "１", "٣", "1\x00", "²",
	}
}

// unclearOrders has lines that begin like an order, and give none.
func unclearOrders() []string {
	return []string{
		"when", "when ", "when loss", "when loss >", "when loss > 5", "when loss > 5 ", "when loss > 5 then", "when loss > 5 then ", "when loss > 5 mended",
		"when > 5 then mended", "when loss 5 then mended", "when loss then mended", "when 5 > loss then mended", "when loss > loss then mended", "when loss > done then mended",
		"when loss >= 5 then mended", "when loss <= 5 then mended", "when loss == 5 then mended", "when loss <> 5 then mended", "when loss ! 5 then mended", "when loss is 5 then mended",
		"when loss >5 then mended", "when loss> 5 then mended", "when loss > 5 Then mended", "when loss > 5 then Mended", "When loss > 5 then mended", "wHen loss > 5 then mended",
		"when  loss > 5 then mended", "when loss  > 5 then mended", "when loss >  5 then mended", "when loss > 5  then mended", "when loss > 5 then  mended", "when loss > 5 then mended ",
		" when loss > 5 then mended", "when\tloss > 5 then mended", "when loss > 5 then mended 1", "when loss > 5 6 then mended", "when loss 5 > 5 then mended", "when loss > > 5 then mended",
		"when need > 5 then mended", "when need = 0 then mended", "when order = 0 then mended", "when pack = 0 then mended", "when early > 5 then mended", "when early 3 3 > 5 then mended",
		"when mended > 5 then mended", "when wind 1 2 > 5 then mended", "when menders > 1 then mended", "when forget 0 > 0 then mended", "when sail > 0 then mended", "when when > 0 then mended",
		"when loss > 5 then safe", "when loss > 5 then loss", "when loss > 5 then need", "when loss > 5 then early 3", "when loss > 5 then forget 0", "when loss > 5 then sail",
		"when loss > 5 then when loss > 5 then mended", "when loss > 5 then then mended", "when loss > 5 then mended then mended", "when loss > 5 and done > 5 then mended",
		"when loss > 5 then wind 1", "when loss > 5 then wind 1 2 3", "when loss > 5 then menders", "loss > 5 then mended", "then mended when loss > 5", "when loss > 5 then mended\n",
	}
}

// P12.2: lines that are not clear change nothing, and give no order.
func TestUnclearLines(t *testing.T) {
	for _, line := range unclear() {
		got := answered(t, town(), [2]string{line, "what"}, [2]string{"forget 0", "no"})
		got.isLeft(t)
		got.isTown(t, town())
	}
	long := strings.Repeat("9", 100000)
	blanks := strings.Repeat(" ", 100000)
	for _, line := range []string{long, blanks, "wind " + long + " 2", "safe" + blanks, "when loss > " + long + " then mended", strings.Repeat("when loss > 5 then ", 5000)} {
		if got := run(t, town(), line); got.answers[0] != "what" {
			t.Errorf("a line of %d bytes is answered %q", len(line), got.answers[0])
		}
	}
}

// refused has lines that are clear, and can not be done in the town of the examples.
func refused() []string {
	list := []string{
		"heavy -1 5", "heavy 3 5", "heavy 999999 5", "heavy -999999 5", "heavy 0 -1", "heavy 0 21", "heavy 2 999999", "heavy 3 21",
		"torn -1 1 2 3", "torn 21 1 2 3", "torn 0 -1 2 3", "torn 0 3 2 3", "torn 0 1 21 3", "torn 0 21 21 3", "torn 0 1 2 0", "torn 0 1 2 10", "torn 0 1 2 -3", "torn 999999 999999 999999 999999",
		"rope 0 0", "rope 2 2", "rope 2 0", "rope 0 3", "rope 3 0", "rope -1 0", "rope 0 -1", "rope 999999 -999999",
		"menders 0", "menders 4", "menders -1", "menders 999999", "menders -999999",
		"part 2 5", "part -1 5", "part 0 -1", "part 0 41", "part 999999 0", "barrel -1", "barrel 100", "barrel 999999", "barrel -999999",
		"forget 0", "forget 1", "forget -1", "forget 999999", "forget -999999",
	}
	for _, numbers := range []string{"-1 3", "0 21", "21 21", "3 2", "20 0", "-2 -1", "999999 999999", "-999999 999999", "1 0"} {
		list = append(list, "wind "+numbers, "current "+numbers)
	}
	return list
}

// P12.2: lines that are refused change nothing.
func TestRefusedLines(t *testing.T) {
	for _, line := range refused() {
		got := answered(t, town(), [2]string{line, "no"})
		got.isLeft(t)
		got.isTown(t, town())
	}
	for _, line := range []string{"heavy 0 0", "heavy 0 5", "mended", "rope 0 0", "rope 0 1", "part 0 0", "forget 0"} {
		answered(t, bare(), [2]string{line, "no"}).isTown(t, bare())
	}
	for _, line := range []string{"torn 0 0 0 1", "rope 5 4", "rope 0 1", "menders 4", "part 0 0", "barrel 0", "heavy 6 20", "wind 0 21"} {
		answered(t, largest(), [2]string{line, "no"}).isTown(t, largest())
	}
}

// P12.2: what each line changes, at both ends of what is valid.
func TestChanges(t *testing.T) {
	for _, x := range []struct {
		line   string
		change func(t *api.HeadTown)
	}{
		{"wind 0 0", func(t *api.HeadTown) { t.Net.Wind = span(0, 0) }}, {"wind 20 20", func(t *api.HeadTown) { t.Net.Wind = span(20, 20) }},
		{"wind 0 20", func(t *api.HeadTown) { t.Net.Wind = span(0, 20) }}, {"wind 5 7", func(t *api.HeadTown) { t.Net.Wind = span(5, 7) }},
		{"current 0 0", func(t *api.HeadTown) { t.Net.Current = span(0, 0) }}, {"current 20 20", func(t *api.HeadTown) { t.Net.Current = span(20, 20) }},
		{"current 0 20", func(t *api.HeadTown) { t.Net.Current = span(0, 20) }}, {"current 5 7", func(t *api.HeadTown) { t.Net.Current = span(5, 7) }},
		{"heavy 0 0", func(t *api.HeadTown) { t.Net.Anchors[0].Weight = 0 }}, {"heavy 2 20", func(t *api.HeadTown) { t.Net.Anchors[2].Weight = 20 }},
		{"heavy 1 5", func(t *api.HeadTown) {}}, {"heavy 1 7", func(t *api.HeadTown) { t.Net.Anchors[1].Weight = 7 }},
		{"torn 0 0 0 1", func(t *api.HeadTown) { t.Torn.Holes = append(t.Torn.Holes, hole(0, 0, 0, 1)) }},
		{"torn 20 20 20 9", func(t *api.HeadTown) { t.Torn.Holes = append(t.Torn.Holes, hole(20, 20, 20, 9)) }},
		{"torn 3 4 5 6", func(t *api.HeadTown) { t.Torn.Holes = append(t.Torn.Holes, hole(3, 4, 5, 6)) }},
		{"rope 0 2", func(t *api.HeadTown) { t.Torn.Pairs = append(t.Torn.Pairs, api.MeshPair{A: 0, B: 2}) }},
		{"rope 2 1", func(t *api.HeadTown) { t.Torn.Pairs = append(t.Torn.Pairs, api.MeshPair{A: 2, B: 1}) }},
		{"menders 1", func(t *api.HeadTown) {}}, {"menders 2", func(t *api.HeadTown) { t.Torn.Menders = 2 }}, {"menders 3", func(t *api.HeadTown) { t.Torn.Menders = 3 }},
		{"part 0 0", func(t *api.HeadTown) { t.House.Parts = append(t.House.Parts, api.SaltPart{}) }},
		{"part 1 40", func(t *api.HeadTown) { t.House.Parts = append(t.House.Parts, api.SaltPart{Kind: 1, Pounds: 40}) }},
		{"barrel 0", func(t *api.HeadTown) { t.House.Barrels = append(t.House.Barrels, 0) }}, {"barrel 99", func(t *api.HeadTown) { t.House.Barrels = append(t.House.Barrels, 99) }},
		{"mended", func(t *api.HeadTown) { t.Torn.Holes, t.Torn.Pairs = t.Torn.Holes[1:], nil }},
	} {
		got := answered(t, town(), [2]string{x.line, "ok"})
		got.isLeft(t)
		got.isTown(t, townWith(x.change))
	}
}

// P12.2: one more is refused as soon as there are as many as there can be.
func TestFullTowns(t *testing.T) {
	for _, x := range []struct {
		line string
		many int
	}{{"torn 1 1 1 1", 3}, {"rope 0 1", 7}, {"part 1 1", 3}, {"barrel 30", 2}} {
		got := run(t, town(), slices.Repeat([]string{x.line}, x.many+2)...)
		if want := append(slices.Repeat([]string{"ok"}, x.many), "no", "no"); !slices.Equal(got.answers, want) {
			t.Errorf("%q again and again is answered %q", x.line, got.answers)
		}
	}
}

// P12.2: the hole that goes need not be the one with the least number, and pairs keep their holes and their order.
func TestMended(t *testing.T) {
	pairs := []api.MeshPair{{A: 2, B: 3}, {A: 0, B: 4}, {A: 0, B: 1}, {A: 2, B: 0}, {A: 1, B: 4}, {A: 3, B: 1}, {A: 0, B: 1}}
	start := townWith(func(t *api.HeadTown) {
		t.Torn = api.MeshNet{Menders: 2, Holes: []api.MeshHole{hole(0, 0, 1, 1), hole(1, 1, 2, 2), hole(2, 2, 3, 3), hole(3, 3, 4, 4), hole(4, 4, 5, 5)}, Pairs: pairs}
	})
	got := answered(t, start, [2]string{"order", "2 0 3 1 4"}, [2]string{"mended", "ok"})
	want := townWith(func(t *api.HeadTown) {
		t.Torn = api.MeshNet{Menders: 2, Holes: []api.MeshHole{hole(0, 0, 1, 1), hole(1, 1, 2, 2), hole(3, 3, 4, 4), hole(4, 4, 5, 5)}, Pairs: []api.MeshPair{{A: 0, B: 3}, {A: 0, B: 1}, {A: 1, B: 3}, {A: 2, B: 1}, {A: 0, B: 1}}}
	})
	got.isTown(t, want)
	want.Torn = api.MeshNet{Menders: 2, Holes: []api.MeshHole{hole(4, 4, 5, 5)}}
	answered(t, got.after, [2]string{"mended", "ok"}, [2]string{"mended", "ok"}, [2]string{"mended", "ok"}).isTown(t, want)
}

// P12.8: empty lists, numbers below 0 that are asked of, no result, and other errors.
func TestAnswers(t *testing.T) {
	answered(t, bare(), [][2]string{
		{"safe", "1"}, {"storm", "none"}, {"need", "nothing"}, {"loss", "0"}, {"order", "nothing"}, {"done", "0"}, {"salt", "0"}, {"pack", "nothing"},
		{"early 0", "0"}, {"early 20", "0"}, {"early -1", "wrong"}, {"early 21", "wrong"}, {"early 999999", "wrong"}, {"early -999999", "wrong"}, {"buy", "0"},
	}...)
	answered(t, largest(), [][2]string{
		{"safe", "3"}, {"storm", "0"}, {"need", "none"}, {"order", "0 1 5 2 3 4"}, {"salt", "none"}, {"pack", "none"}, {"early 20", "none"}, {"early 21", "wrong"}, {"buy", "wrong"},
	}...)
	answered(t, town(), [][2]string{
		{"part 0 40", "ok"}, {"part 0 40", "ok"}, {"buy", "none"}, {"wind 20 20", "ok"}, {"storm", "1"}, {"safe", "2"}, {"heavy 0 20", "ok"}, {"need", "none"},
	}...)
}

// P12.2: less than, equal to, greater than.
func TestSigns(t *testing.T) {
	for _, x := range []struct{ wait, at string }{
		{"loss < 58", ""}, {"loss < 59", "0:ok"}, {"loss < 57", ""}, {"loss = 58", "0:ok"}, {"loss = 57", ""}, {"loss = 59", ""}, {"loss > 58", ""}, {"loss > 57", "0:ok"}, {"loss > 59", ""},
		{"loss > -1", "0:ok"}, {"loss < -1", ""}, {"loss = -58", ""}, {"loss < 999999", "0:ok"}, {"loss > -999999", "0:ok"}, {"loss > 999999", ""}, {"loss < -999999", ""},
		{"safe = 3", "0:ok"}, {"storm = 1", "0:ok"}, {"done = 6", "0:ok"}, {"salt = 16", "0:ok"}, {"early 4 = 8", "0:ok"}, {"early 10 = 33", "0:ok"}, {"early 4 = 33", ""}, {"buy = 0", "0:ok"},
		{"early 21 = 0", ""}, {"early 21 < 999999", ""}, {"early 21 > -999999", ""}, {"early -1 = 0", ""},
	} {
		line, answer := "when "+x.wait+" then wind 7 8", "ok"
		want, left := town(), []string{line}
		if x.at != "" {
			answer += " " + x.at
			want.Net.Wind, left = span(7, 8), nil
		}
		got := answered(t, town(), [2]string{line, answer})
		got.isLeft(t, left...)
		got.isTown(t, want)
	}
}

// P12.2: an order does not hold as long as the function returns an error.
func TestOrdersWithErrors(t *testing.T) {
	late, never, calm := "when salt > -1 then menders 2", "when early 30 > -1 then menders 3", "when storm < 999999 then menders 3"
	start := townWith(func(t *api.HeadTown) { t.House.Barrels = nil; t.Net.Walls = make([]api.AnchorWall, 2) })
	got := answered(t, start, [][2]string{
		{late, "ok"}, {never, "ok"}, {calm, "ok"}, {"salt", "none"}, {"storm", "none"}, {"barrel 40", "ok"}, {"barrel 20", "ok 0:ok"}, {"done", "3"},
	}...)
	got.isLeft(t, never, calm)
}

// P12.2: the orders that hold are done from the least number on, and looked at anew behind each.
func TestOrdersAnew(t *testing.T) {
	first, second, third := "when early 20 > 34 then menders 3", "when early 20 > 33 then part 0 1", "when early 20 > 33 then part 1 41"
	last := "when early 20 > 35 then wind 0 0"
	got := answered(t, town(), [][2]string{
		{first, "ok"}, {second, "ok"}, {third, "ok"}, {last, "ok"}, {"safe", "3"}, {"part 0 41", "no"}, {"part 0 1", "ok 1:ok 0:ok 2:no"}, {"early 20", "35"}, {"forget 2", "no"}, {"forget 3", "ok"},
	}...)
	got.isLeft(t)
	got.isTown(t, townWith(func(t *api.HeadTown) {
		t.Torn.Menders, t.House.Parts = 3, append(t.House.Parts, api.SaltPart{Pounds: 1}, api.SaltPart{Pounds: 1})
	}))

	got = answered(t, town(), [][2]string{ // what the first one does, the second one need not do any more
		{"when done > 6 then menders 2", "ok"}, {"when done > 6 then menders 3", "ok"}, {"torn 0 1 1 5", "ok 0:ok"}, {"done", "6"}, {"torn 0 1 1 5", "ok 1:ok"},
	}...)
	got.isLeft(t)

	got = answered(t, town(), [][2]string{ // each does what the next one waits for
		{"when done = 3 then wind 0 0", "ok"}, {"when safe = 1 then part 1 1", "ok"}, {"when early 20 = 34 then menders 2", "ok"}, {"when safe = 2 then mended", "ok"}, {"part 0 1", "ok 2:ok 0:ok 1:ok"}, {"early 20", "35"},
	}...)
	got.isLeft(t, "when safe = 2 then mended")
}

// P12.2: how many orders can stand, and which numbers they have.
func TestManyOrders(t *testing.T) {
	wait := func(n string) string { return "when loss = " + n + " then mended" }
	got := answered(t, town(), [][2]string{
		{wait("1"), "ok"}, {wait("2"), "ok"}, {wait("3"), "ok"}, {wait("4"), "ok"}, {wait("5"), "ok"}, {wait("6"), "no"}, {wait("58"), "no"}, {"forget 5", "no"},
		{"forget 2", "ok"}, {"forget 2", "no"}, {wait("6"), "ok"}, {wait("7"), "no"}, {"forget 6", "no"}, {"forget 0", "ok"}, {"when loss = 58 then menders 2", "ok 6:ok"},
		{"forget 6", "no"}, {wait("8"), "ok"}, {wait("9"), "no"}, {"forget 7", "ok"}, {wait("40"), "ok 8:ok"}, {wait("1"), "ok"}, {wait("2"), "no"},
	}...)
	got.isLeft(t, wait("2"), wait("4"), wait("5"), wait("6"), wait("1"))
	got = answered(t, town(), [][2]string{ // orders that were refused have no numbers, nor have lines that are not clear
		{"when loss > 5 then", "what"}, {wait("1"), "ok"}, {wait("1"), "ok"}, {"when loss = 58 then menders 4", "ok 2:no"}, {"forget 2", "no"}, {"forget 1", "ok"}, {"forget 1", "no"}, {"forget 0", "ok"}, {"forget 0", "no"},
	}...)
	got.isLeft(t)
	got.isTown(t, town())
}

// P12.2: each line finds the town and the orders as the lines before it left them.
func TestLaterLines(t *testing.T) {
	got := answered(t, town(), [][2]string{
		{"when loss < 30 then wind 1 1", "ok"}, {"menders 3", "ok"}, {"loss", "40"}, {"mended", "ok 0:ok"}, {"loss", "26"}, {"mended", "ok"}, {"mended", "ok"}, {"mended", "no"}, {"order", "nothing"},
		{"torn 0 2 3 4", "ok"}, {"loss", "12"}, {"when loss < 30 then wind 2 2", "ok 1:ok"},
	}...)
	got.isLeft(t)
	got.isTown(t, townWith(func(t *api.HeadTown) {
		t.Net.Wind, t.Torn = span(2, 2), api.MeshNet{Menders: 3, Holes: []api.MeshHole{hole(0, 2, 3, 4)}}
	}))
}

// roomy returns a list with other elements behind its end.
func roomy[T any](list []T, other T) []T {
	return append(slices.Clone(list), other, other, other)[:len(list)]
}

// roomyTown is a town whose lists all have room for more elements.
func roomyTown() api.HeadTown {
	return townWith(func(t *api.HeadTown) {
		t.Net.Grips, t.Net.Anchors, t.Net.Walls = roomy(t.Net.Grips, span(7, 7)), roomy(t.Net.Anchors, api.Anchor{Weight: 77}), roomy(t.Net.Walls, api.AnchorWall{Sail: 77})
		t.Torn.Holes, t.Torn.Pairs = roomy(t.Torn.Holes, hole(7, 7, 7, 7)), roomy(t.Torn.Pairs, api.MeshPair{A: 7, B: 7})
		t.House.Kinds, t.House.Parts, t.House.Barrels = roomy(t.House.Kinds, api.SaltKind{Days: 77}), roomy(t.House.Parts, api.SaltPart{Kind: 7, Pounds: 7}), roomy(t.House.Barrels, 77)
	})
}

// whole returns a town with what is behind the ends of its lists, in other memory.
func whole(t api.HeadTown) api.HeadTown {
	t.Net.Grips, t.Net.Anchors, t.Net.Walls = slices.Clone(room(t.Net.Grips)), slices.Clone(room(t.Net.Anchors)), slices.Clone(room(t.Net.Walls))
	t.Torn.Holes, t.Torn.Pairs = slices.Clone(room(t.Torn.Holes)), slices.Clone(room(t.Torn.Pairs))
	t.House.Kinds, t.House.Parts, t.House.Barrels = slices.Clone(room(t.House.Kinds)), slices.Clone(room(t.House.Parts)), slices.Clone(room(t.House.Barrels))
	return t
}

// room returns a list with all that is behind its end.
func room[T any](list []T) []T { return list[:cap(list)] }

// spoil writes over all lists of a town, and behind their ends.
func spoil(t api.HeadTown) {
	clear(room(t.Net.Grips))
	clear(room(t.Net.Anchors))
	clear(room(t.Net.Walls))
	clear(room(t.Torn.Holes))
	clear(room(t.Torn.Pairs))
	clear(room(t.House.Kinds))
	clear(room(t.House.Parts))
	clear(room(t.House.Barrels))
}

// R4: results are new memory, and no argument is changed.
func TestMemory(t *testing.T) {
	changing := []string{
		"heavy 0 1", "torn 1 2 3 4", "rope 0 3", "part 0 1", "barrel 9", "wind 0 0", "menders 4", "torn 1 1 1 0", "part 0 41", "barrel 100", "rope 3 0", "mended", "when loss < 0 then mended", "when loss > 0 then mended",
	}
	for _, lines := range [][]string{nil, {"safe"}, changing} {
		start, given := roomyTown(), slices.Clone(lines)
		before := whole(start)
		got, other := run(t, start, lines...), run(t, start, lines...)
		if !reflect.DeepEqual(whole(start), before) || !slices.Equal(lines, given) {
			t.Errorf("Run of %q has changed its arguments: %v, %q", lines, start, given)
		}
		spoil(got.after)
		clear(room(got.answers))
		clear(room(got.left))
		if !reflect.DeepEqual(whole(start), before) || !slices.Equal(lines, given) {
			t.Errorf("the results of Run of %q share memory with its arguments: %v, %q", lines, start, given)
		}
		again := run(t, start, lines...)
		if !slices.Equal(again.answers, other.answers) || !slices.Equal(again.left, other.left) || !same(again.after, other.after) {
			t.Errorf("Run of %q returns other results the second time", lines)
		}
	}
}

// R3: an empty list is a nil list.
func TestEmptyLists(t *testing.T) {
	empty := api.HeadTown{
		Net:   api.AnchorNet{Grips: []api.Span{}, Anchors: []api.Anchor{}, Walls: []api.AnchorWall{}},
		Torn:  api.MeshNet{Menders: 1, Holes: []api.MeshHole{}, Pairs: []api.MeshPair{}},
		House: api.SaltHouse{Kinds: []api.SaltKind{}, Parts: []api.SaltPart{}, Barrels: []int{}},
	}
	for _, lines := range [][]string{nil, {}, {"safe", "need", "order", "pack", "mended", "torn 1 2 3 4", "order", "mended", "barrel 5", "order", "buy"}} {
		got, want := run(t, empty, lines...), run(t, bare(), lines...)
		if !slices.Equal(got.answers, want.answers) || !slices.Equal(got.left, want.left) || !same(got.after, want.after) {
			t.Errorf("%q: %v of empty lists, %v of nil lists", lines, got, want)
		}
	}
}
