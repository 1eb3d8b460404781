package headman_test

import (
	"slices"
	"strconv"
	"strings"
	"testing"

	"almadraba/anchors"
	"almadraba/api"
	"almadraba/headman"
	"almadraba/mesh"
	"almadraba/salt"
)

// own returns an answer without the orders that were done.
func own(answer string) string {
	if i := strings.IndexByte(answer, ':'); i >= 0 {
		answer = answer[:strings.LastIndexByte(answer[:i], ' ')]
	}
	return answer
}

// isOrder reports whether a line has given an order.
func isOrder(line, answer string) bool {
	return strings.HasPrefix(line, "when ") && own(answer) == "ok"
}

// equal checks that two runs end alike, and that they have the same of their answers.
func equal(t *testing.T, what string, got, want result, gotAnswers, wantAnswers []string) {
	t.Helper()
	if !slices.Equal(gotAnswers, wantAnswers) || !same(got.after, want.after) || !slices.Equal(got.left, want.left) {
		t.Fatalf("%s: %q, %v, %q, not %q, %v, %q", what, gotAnswers, got.after, got.left, wantAnswers, want.after, want.left)
	}
}

// enough checks that nothing was found too rarely.
func enough(t *testing.T, least int, found ...int) {
	t.Helper()
	if slices.Min(found) < least {
		t.Errorf("too few of one kind: %v", found)
	}
}

// plain returns lines that give no order, and take none back.
func (d *dice) plain(many int) []string {
	var lines []string
	for range many {
		line := d.change(d.below(3))
		if d.below(4) == 0 {
			line = d.ask(d.below(3))
		}
		lines = append(lines, line)
	}
	return lines
}

// P12.3.
func TestCutInTwo(t *testing.T) {
	d := dice(3)
	orders, later := 0, 0
	for _, x := range tales(3, 300) {
		many := d.below(api.MaxHeadLines - len(x.lines) + 1)
		lines := append(d.plain(many), x.lines...)
		all := run(t, x.start, lines...)
		given := false
		for at := 0; at <= len(lines) && !given; at++ {
			first := run(t, x.start, lines[:at]...)
			second := run(t, first.after, lines[at:]...)
			equal(t, "cut in two", second, all, append(first.answers, second.answers...), all.answers)
			given = at < len(lines) && isOrder(lines[at], all.answers[at])
			orders += len(all.left)
			later += at
		}
	}
	enough(t, 1000, orders, later)
}

// P12.4.
func TestNothing(t *testing.T) {
	var found [3]int
	for _, x := range tales(4, 400) {
		all := run(t, x.start, x.lines...)
		var lines, answers []string
		for i, answer := range all.answers {
			switch own(answer) {
			case "ok":
				lines, answers = append(lines, x.lines[i]), append(answers, answer)
				continue
			case "no":
				found[0]++
			case "what":
				found[1]++
			default:
				found[2]++
			}
			rest := run(t, x.start, slices.Concat(x.lines[:i], x.lines[i+1:])...)
			equal(t, "without "+x.lines[i], rest, all, rest.answers, slices.Concat(all.answers[:i], all.answers[i+1:]))
			if own(answer) != answer {
				t.Fatalf("%v: %q: orders are done behind %q: %q", x.start, x.lines, x.lines[i], answer)
			}
		}
		rest := run(t, x.start, lines...)
		equal(t, "without all that does nothing", rest, all, rest.answers, answers)
	}
	enough(t, 100, found[:]...)
}

// P12.5.
func TestAtOnce(t *testing.T) {
	d := dice(5)
	var found [2]int
	for range 1500 {
		start, line := d.town(), d.change(d.below(3))
		plainly := run(t, start, line)
		want := []string{"ok 0:" + plainly.answers[0]}
		for range 3 {
			asks := one(&d, "safe", "loss", "done", "early 20", "early 3", "buy", "storm", "salt")
			value, e := ask(start, asks)
			if e != api.OK {
				continue
			}
			n := value.(int)
			order := "when " + asks + one(&d, words(" =", n), words(" <", n+1+d.below(9)), words(" >", n-1-d.below(9))) + " then " + line
			got := run(t, start, order)
			equal(t, order, got, plainly, got.answers, want)
			found[strings.Index("ok no", plainly.answers[0])/3]++
		}
	}
	enough(t, 300, found[:]...)
}

// renamed returns an answer with the number of each order that is above one of them less by 1.
func renamed(t *testing.T, answer string, gone int) string {
	t.Helper()
	parts := strings.Split(answer, " ")
	for i, part := range parts {
		number, done, is := strings.Cut(part, ":")
		if !is {
			continue
		}
		n, err := strconv.Atoi(number)
		if err != nil || n == gone {
			t.Fatalf("the answer %q, though %d was taken back", answer, gone)
		}
		if n > gone {
			parts[i] = strconv.Itoa(n-1) + ":" + done
		}
	}
	return strings.Join(parts, " ")
}

// P12.6.
func TestForgotten(t *testing.T) {
	d := dice(6)
	forgotten, done := 0, 0
	for _, x := range tales(6, 1500) {
		lines := slices.DeleteFunc(slices.Clone(x.lines), func(line string) bool { return strings.HasPrefix(line, "forget") })
		if len(lines) > api.MaxHeadLines-2 {
			continue
		}
		at := d.below(len(lines) + 1)
		before := run(t, x.start, lines[:at]...)
		gone := 0
		for i, answer := range before.answers {
			if isOrder(lines[i], answer) {
				gone++
			}
		}
		order := d.order(before.after, d.below(3))
		with := run(t, x.start, slices.Concat(lines[:at], []string{order, words("forget", gone)}, lines[at:])...)
		if with.answers[at] != "ok" {
			continue // it was done at once, or too many stand
		}
		forgotten++
		without := run(t, x.start, lines...)
		if with.answers[at+1] != "ok" {
			t.Fatalf("%v: %q: forget %d is answered %q", x.start, lines[:at], gone, with.answers[at+1])
		}
		answers := slices.Concat(with.answers[:at], with.answers[at+2:])
		for i := range answers {
			answers[i] = renamed(t, answers[i], gone)
			if i > at {
				done += strings.Count(answers[i], ":")
			}
		}
		equal(t, "without "+order, with, without, answers, without.answers)
	}
	enough(t, 200, forgotten, done)
}

// P12.7.
func TestOnce(t *testing.T) {
	var found [3]int // done, taken back, standing
	for _, x := range tales(7, 1500) {
		got := run(t, x.start, x.lines...)
		var orders []string
		var what []int // what became of each: how often it was done, or taken back
		for i, answer := range got.answers {
			if isOrder(x.lines[i], answer) {
				orders, what = append(orders, x.lines[i]), append(what, 0)
			}
			if number, is := strings.CutPrefix(x.lines[i], "forget "); is && own(answer) == "ok" {
				n, _ := strconv.Atoi(number)
				what[n]++
				found[1]++
			}
			for _, part := range strings.Fields(answer) {
				if number, _, is := strings.Cut(part, ":"); is {
					n, _ := strconv.Atoi(number)
					what[n]++
					found[0]++
				}
			}
		}
		var left []string
		for n, many := range what {
			if many > 1 {
				t.Fatalf("%v: %q are answered %q: the order %d was done or taken back %d times", x.start, x.lines, got.answers, n, many)
			}
			if many == 0 {
				left = append(left, orders[n])
			}
		}
		if !slices.Equal(left, got.left) || len(left) > api.MaxHeadOrders {
			t.Fatalf("%v: %q are answered %q, and the orders %q stand, not %q", x.start, x.lines, got.answers, got.left, left)
		}
		for _, line := range left {
			found[2]++
			if again := run(t, got.after, line); again.answers[0] != "ok" {
				t.Fatalf("%v: %q: at last %q holds", x.start, x.lines, line)
			}
		}
	}
	enough(t, 300, found[:]...)
}

// P12.8.
func TestAsked(t *testing.T) {
	found := 0
	for _, x := range tales(8, 400) {
		all := run(t, x.start, x.lines...)
		for i, line := range x.lines {
			if askForm.MatchString(line) {
				found++
				if want := asked(run(t, x.start, x.lines[:i]...).after, line); all.answers[i] != want {
					t.Fatalf("%v: %q: %q is answered %q, not %q", x.start, x.lines[:i], line, all.answers[i], want)
				}
			}
		}
	}
	enough(t, 500, found)
}

// P12.9.
func TestBesideEachOther(t *testing.T) {
	d := dice(9)
	for range 1500 {
		start, lines := d.town(), d.plain(d.below(10))
		parts := one(&d, [2]int{0, 1}, [2]int{0, 2}, [2]int{1, 2}, [2]int{1, 0}, [2]int{2, 0}, [2]int{2, 1})
		a, b := d.change(parts[0]), one(&d, d.change(parts[1]), d.ask(parts[1]))
		first := run(t, start, slices.Concat(lines, []string{a, b})...)
		other := run(t, start, slices.Concat(lines, []string{b, a})...)
		n := len(lines)
		equal(t, a+", "+b, other, first, other.answers, append(slices.Clone(first.answers[:n]), first.answers[n+1], first.answers[n]))
	}
}

// P12.10.
func TestAllMended(t *testing.T) {
	d := dice(10)
	found := 0
	for range 300 {
		start := d.town()
		start.Torn = d.torn(api.MaxMeshHoles)
		lines := []string{"loss"}
		for range len(start.Torn.Holes) + 1 {
			lines = append(lines, "mended", "loss")
		}
		got := run(t, start, lines...)
		for i := 1; i < len(lines); i += 2 {
			before, _ := strconv.Atoi(got.answers[i-1])
			behind, err := strconv.Atoi(got.answers[i+1])
			if want := okOrNo(i < len(lines)-2); got.answers[i] != want || err != nil || behind > before {
				t.Fatalf("%v: %q are answered %q", start, lines, got.answers)
			}
			found++
		}
		if len(got.after.Torn.Holes)+len(got.after.Torn.Pairs) > 0 || got.answers[len(lines)-1] != "0" {
			t.Fatalf("%v: %v is left, and lost %s", start, got.after.Torn, got.answers[len(lines)-1])
		}
	}
	enough(t, 1000, found)
}

// P12.11.
func TestWaiting(t *testing.T) {
	d := dice(11)
	var found [3]int // done at once, later, never
	for range 2500 {
		start, lines := d.town(), d.plain(1+d.below(15))
		order := d.order(start, d.below(3))
		x := orderForm.FindStringSubmatch(order)
		limit, _ := strconv.Atoi(x[3])
		waits := promise{asks: x[1], sign: x[2], limit: limit}
		with, without := run(t, start, append([]string{order}, lines...)...), run(t, start, lines...)
		behind := 0 // behind so many lines it holds first
		for behind <= len(lines) && !waits.holds(run(t, start, lines[:behind]...).after) {
			behind++
		}
		switch {
		case behind == 0:
			found[0]++
		case behind <= len(lines):
			found[1]++
		default:
			found[2]++
		}
		for i, answer := range with.answers {
			if strings.Contains(answer, ":") != (i == behind) || 0 < i && i < behind && answer != without.answers[i-1] || i > 0 && i == behind && own(answer) != without.answers[i-1] {
				t.Fatalf("%v: %q are answered %q with %q, and %q without", start, lines, with.answers, order, without.answers)
			}
		}
		if stands := slices.Equal(with.left, []string{order}); stands != (behind > len(lines)) || !stands && len(with.left) > 0 {
			t.Fatalf("%v: %q: the orders %q stand, not %q", start, lines, with.left, order)
		}
	}
	enough(t, 100, found[:]...)
}

// written returns a town with nothing in it that lines can write, and lines that write down another town.
func written(t api.HeadTown) (api.HeadTown, []string) {
	lines := []string{words("wind", t.Net.Wind.Low, t.Net.Wind.High), words("current", t.Net.Current.Low, t.Net.Current.High), words("menders", t.Torn.Menders)}
	blank := api.HeadTown{
		Net:   api.AnchorNet{Grips: t.Net.Grips, Anchors: slices.Clone(t.Net.Anchors), Walls: t.Net.Walls},
		Torn:  api.MeshNet{Menders: 1},
		House: api.SaltHouse{Kinds: t.House.Kinds, Floor: t.House.Floor},
	}
	for i, a := range t.Net.Anchors {
		blank.Net.Anchors[i].Weight = 0
		lines = append(lines, words("heavy", i, a.Weight))
	}
	for _, h := range t.Torn.Holes {
		lines = append(lines, words("torn", h.From, h.Rate.Low, h.Rate.High, h.Hours))
	}
	for _, p := range t.Torn.Pairs {
		lines = append(lines, words("rope", p.A, p.B))
	}
	for _, p := range t.House.Parts {
		lines = append(lines, words("part", p.Kind, p.Pounds))
	}
	for _, size := range t.House.Barrels {
		lines = append(lines, words("barrel", size))
	}
	return blank, lines
}

// P0.16.
func TestTownWrittenDown(t *testing.T) {
	d := dice(12)
	for range 300 {
		want := d.town()
		now, lines := written(want)
		for part := range slices.Chunk(lines, api.MaxHeadLines) {
			got := run(t, now, part...)
			if slices.Contains(got.answers, "no") || slices.Contains(got.answers, "what") {
				t.Fatalf("%v: %q are answered %q", want, part, got.answers)
			}
			now = got.after
		}
		if !same(now, want) {
			t.Fatalf("%q write down %v, not %v", lines, now, want)
		}
		safe, e := anchors.Safe(want.Net)
		loss, f := mesh.Least(want.Torn)
		least, g := salt.Least(want.House)
		is := strconv.Itoa(least)
		if g == api.ErrNone {
			is = "none"
		}
		if got := run(t, now, "safe", "loss", "salt"); e+f != api.OK || !slices.Equal(got.answers, []string{strconv.Itoa(safe), strconv.Itoa(loss), is}) {
			t.Fatalf("%v: safe, loss, salt are answered %q", want, got.answers)
		}
	}
}

// P0.17.
func TestBarrelInTime(t *testing.T) {
	d := dice(13)
	var found [3]int // the order is done, there is a packing all the same, there are as many barrels as there can be
	for found[0]+found[1]+found[2] < 600 {
		start := d.town()
		start.House = d.house(5)
		if d.below(3) == 0 {
			start.House.Barrels = append(start.House.Barrels, make([]int, api.MaxSaltBarrels-len(start.House.Barrels))...)
		}
		kind, pounds := d.below(len(start.House.Kinds)), 1+d.below(40)
		if _, e := salt.Least(start.House); e != api.OK {
			continue
		}
		more := start.House
		more.Parts = append(slices.Clip(more.Parts), api.SaltPart{Kind: kind, Pounds: pounds})
		size, e := salt.Buy(more)
		order, line := words("when buy > 0 then barrel", size), words("part", kind, pounds)
		got := run(t, start, order, line, "salt")
		switch {
		case e == api.OK && size > 0:
			found[0]++
			more.Barrels = append(slices.Clip(more.Barrels), size)
			least, e := salt.Least(more)
			if want := []string{"ok", "ok 0:ok", strconv.Itoa(least)}; e != api.OK || !slices.Equal(got.answers, want) || len(got.left) > 0 {
				t.Fatalf("%v: %q and %q are answered %q, not %q", start.House, order, line, got.answers, want)
			}
			continue
		case e == api.OK:
			found[1]++
		default:
			found[2]++
		}
		if !slices.Equal(got.answers[:2], []string{"ok", "ok"}) || !slices.Equal(got.left, []string{order}) {
			t.Fatalf("%v: %q and %q are answered %q, though Buy is %d, %d", start.House, order, line, got.answers, size, e)
		}
	}
	enough(t, 20, found[:]...)
}

// P1: any bytes, any towns.
func TestAnything(t *testing.T) {
	d := dice(14)
	pieces := []string{" ", "  ", "when", "then", "forget", "wind", "mended", "torn", "barrel", "early", "loss", "need", "<", "=", ">", "0", "1", "-1", "99", "999999", "1000000", "-", "\x00", "\xff", "é", "\n", ":"}
	for range 3000 {
		start := d.town()
		if d.below(4) == 0 {
			start.Net.Wind.Low, start.Torn.Menders, start.House.Floor = d.number(-3, 20), d.number(0, 4), d.number(0, 12)
		}
		var lines []string
		for range d.below(34) {
			line := ""
			for range d.below(9) {
				line += one(&d, pieces...) + one(&d, "", " ", " ", " ")
			}
			lines = append(lines, line)
		}
		want := headman.Check(start)
		if want == api.OK && len(lines) > api.MaxHeadLines {
			want = api.ErrMany
		}
		if want != api.OK {
			isError(t, start, lines, want)
			continue
		}
		run(t, start, lines...)
	}
}
