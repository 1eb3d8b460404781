package headman_test

import (
	"fmt"
	"regexp"
	"slices"
	"strconv"
	"strings"
	"testing"

	"almadraba/anchors"
	"almadraba/api"
	"almadraba/mesh"
	"almadraba/salt"
)

// The model reads lines by regular expressions, keeps each order for ever, with what became of it, and makes all that a line can change anew.

// form returns a regular expression of whole lines, in which N is a number.
func form(text string) *regexp.Regexp {
	return regexp.MustCompile(`\A(?:` + strings.ReplaceAll(text, "N", `(?:0|-?[1-9][0-9]{0,5})`) + `)\z`)
}

const (
	counting = `safe|storm|loss|done|salt|early N|buy`
	changing = `wind N N|current N N|heavy N N|torn N N N N|rope N N|menders N|mended|part N N|barrel N`
)

var (
	askForm    = form(counting + `|need|order|pack`)
	changeForm = form(changing)
	orderForm  = form(`when (` + counting + `) ([<=>]) (N) then (` + changing + `)`)
	forgetForm = form(`forget (N)`)
)

// promise is an order of the model.
type promise struct {
	line, asks, sign, deed string
	limit                  int
	gone                   bool
}

// model is a headman by the words of the chapter.
type model struct {
	town   api.HeadTown
	orders []promise
}

// numbers returns all numbers of a line.
func numbers(line string) []int {
	var list []int
	for _, part := range strings.Fields(line)[1:] {
		n, err := strconv.Atoi(part)
		if err != nil {
			panic(err)
		}
		list = append(list, n)
	}
	return list
}

// ask returns what a function returns for a town: a number, or a list.
func ask(t api.HeadTown, line string) (any, api.Errno) {
	switch {
	case line == "safe":
		return two(anchors.Safe(t.Net))
	case line == "storm":
		return two(anchors.Wind(t.Net))
	case line == "need":
		return two(anchors.Need(t.Net))
	case line == "loss":
		return two(mesh.Least(t.Torn))
	case line == "order":
		return two(mesh.Order(t.Torn))
	case line == "done":
		return two(mesh.Done(t.Torn))
	case line == "salt":
		return two(salt.Least(t.House))
	case line == "pack":
		return two(salt.Pack(t.House))
	case strings.HasPrefix(line, "early "):
		return two(salt.Early(t.House, numbers(line)[0]))
	case line == "buy":
		return two(salt.Buy(t.House))
	}
	panic(line)
}

// two returns two results, the first one as any value.
func two[T any](result T, e api.Errno) (any, api.Errno) { return result, e }

// asked returns the answer to a line that asks.
func asked(t api.HeadTown, line string) string {
	value, e := ask(t, line)
	if e == api.ErrNone {
		return "none"
	}
	if e != api.OK {
		return "wrong"
	}
	if list, is := value.([]int); is && len(list) == 0 {
		return "nothing"
	}
	return strings.Trim(fmt.Sprint(value), "[]")
}

// mostly returns how a line that changes a town leaves it, valid or not; false if it names what is not there.
func mostly(t api.HeadTown, line string) (api.HeadTown, bool) {
	n := numbers(line)
	switch strings.Fields(line)[0] {
	case "wind":
		t.Net.Wind = span(n[0], n[1])
	case "current":
		t.Net.Current = span(n[0], n[1])
	case "heavy":
		if n[0] < 0 || n[0] >= len(t.Net.Anchors) {
			return t, false
		}
		var list []api.Anchor
		for i, a := range t.Net.Anchors {
			if i == n[0] {
				a = api.Anchor{Weight: n[1], Bottom: a.Bottom}
			}
			list = append(list, a)
		}
		t.Net.Anchors = list
	case "torn":
		t.Torn.Holes = append(slices.Clip(t.Torn.Holes), hole(n[0], n[1], n[2], n[3]))
	case "rope":
		t.Torn.Pairs = append(slices.Clip(t.Torn.Pairs), api.MeshPair{A: n[0], B: n[1]})
	case "menders":
		t.Torn.Menders = n[0]
	case "mended":
		return mend(t)
	case "part":
		t.House.Parts = append(slices.Clip(t.House.Parts), api.SaltPart{Kind: n[0], Pounds: n[1]})
	case "barrel":
		t.House.Barrels = append(slices.Clip(t.House.Barrels), n[0])
	}
	return t, true
}

// mend returns a town without the hole that comes first; false if there is none.
func mend(t api.HeadTown) (api.HeadTown, bool) {
	order, _ := mesh.Order(t.Torn)
	if len(order) == 0 {
		return t, false
	}
	var holes []api.MeshHole
	var pairs []api.MeshPair
	names := map[int]int{} // the new numbers of the holes that stay
	for i, h := range t.Torn.Holes {
		if i != order[0] {
			names[i] = len(holes)
			holes = append(holes, h)
		}
	}
	for _, p := range t.Torn.Pairs {
		a, isA := names[p.A]
		b, isB := names[p.B]
		if isA && isB {
			pairs = append(pairs, api.MeshPair{A: a, B: b})
		}
	}
	t.Torn.Holes, t.Torn.Pairs = holes, pairs
	return t, true
}

// changed returns how a line leaves a town, and whether it was done.
func changed(t api.HeadTown, line string) (api.HeadTown, bool) {
	after, can := mostly(t, line)
	if !can || anchors.Check(after.Net) != api.OK || mesh.Check(after.Torn) != api.OK || salt.Check(after.House) != api.OK {
		return t, false
	}
	return after, true
}

// standing returns how many orders stand.
func (m *model) standing() int {
	many := 0
	for _, o := range m.orders {
		if !o.gone {
			many++
		}
	}
	return many
}

// okOrNo returns the answer to what was done or refused.
func okOrNo(done bool) string { return map[bool]string{true: "ok", false: "no"}[done] }

// own returns the answer to a line but for the orders that are done behind it.
func (m *model) own(line string) string {
	if askForm.MatchString(line) {
		return asked(m.town, line)
	}
	if changeForm.MatchString(line) {
		after, done := changed(m.town, line)
		m.town = after
		return okOrNo(done)
	}
	if x := forgetForm.FindStringSubmatch(line); x != nil {
		n, _ := strconv.Atoi(x[1])
		stands := 0 <= n && n < len(m.orders) && !m.orders[n].gone
		if stands {
			m.orders[n].gone = true
		}
		return okOrNo(stands)
	}
	if x := orderForm.FindStringSubmatch(line); x != nil {
		can := m.standing() < 5
		if limit, _ := strconv.Atoi(x[3]); can {
			m.orders = append(m.orders, promise{line: line, asks: x[1], sign: x[2], limit: limit, deed: x[4]})
		}
		return okOrNo(can)
	}
	return "what"
}

// holds reports whether an order holds in a town.
func (o promise) holds(t api.HeadTown) bool {
	value, e := ask(t, o.asks)
	if e != api.OK {
		return false
	}
	n := value.(int)
	return o.sign == "<" && n < o.limit || o.sign == "=" && n == o.limit || o.sign == ">" && n > o.limit
}

// first returns the first order that stands and holds, or a number below 0.
func (m *model) first() int {
	return slices.IndexFunc(m.orders, func(o promise) bool { return !o.gone && o.holds(m.town) })
}

// hear returns the answer to a line.
func (m *model) hear(line string) string {
	answer := m.own(line)
	for n := m.first(); n >= 0; n = m.first() {
		after, done := changed(m.town, m.orders[n].deed)
		m.town, m.orders[n].gone = after, true
		answer += fmt.Sprintf(" %d:%s", n, okOrNo(done))
	}
	return answer
}

// left returns the lines of the orders that stand.
func (m *model) left() []string {
	var lines []string
	for _, o := range m.orders {
		if !o.gone {
			lines = append(lines, o.line)
		}
	}
	return lines
}

// dice are random numbers, the same ones each time.
type dice uint64

// below returns a number from 0 to below an end.
func (d *dice) below(end int) int {
	*d = *d*6364136223846793005 + 1442695040888963407
	return int(uint64(*d)>>33) % end
}

// one returns one of some values.
func one[T any](d *dice, list ...T) T { return list[d.below(len(list))] }

// span returns a span from 0 to an end.
func (d *dice) span(end int) api.Span {
	low := d.below(end + 1)
	return span(low, low+d.below(end-low+1))
}

// net returns a net in which some anchors may drag and some may not.
func (d *dice) net() api.AnchorNet {
	n := api.AnchorNet{Wind: d.span(1 + d.below(8)), Current: d.span(4)}
	for range 1 + d.below(api.MaxAnchorBottoms) {
		n.Grips = append(n.Grips, d.span(api.MaxAnchorGrip))
	}
	for i := range d.below(api.MaxAnchors + 1) {
		n.Anchors = append(n.Anchors, api.Anchor{Weight: d.below(api.MaxAnchorWeight + 1), Bottom: d.below(len(n.Grips))})
		if i > 0 {
			n.Walls = append(n.Walls, api.AnchorWall{Sail: d.below(6), Drag: d.below(6), Lean: d.below(10), Corks: d.below(100), Stones: d.below(100)})
		}
	}
	return n
}

// torn returns a net with at most so many holes, which has an order.
func (d *dice) torn(most int) api.MeshNet {
	n := api.MeshNet{Menders: 1 + d.below(api.MaxMeshMenders)}
	for range d.below(most + 1) {
		n.Holes = append(n.Holes, api.MeshHole{From: d.below(one(d, 1, 5, 21)), Rate: d.span(one(d, 3, 20)), Hours: 1 + d.below(9)})
	}
	for range d.below(6) {
		more := n
		more.Pairs = append(slices.Clip(n.Pairs), api.MeshPair{A: d.below(len(n.Holes) + 1), B: d.below(len(n.Holes) + 1)})
		if mesh.Check(more) == api.OK {
			n = more
		}
	}
	return n
}

// house returns a house with at most so many parts, and barrels for about as much.
func (d *dice) house(most int) api.SaltHouse {
	h := api.SaltHouse{Floor: d.below(4)}
	for range 1 + d.below(api.MaxSaltKinds) {
		h.Kinds = append(h.Kinds, api.SaltKind{Salt: d.below(10), Days: d.below(21)})
	}
	pounds := one(d, 10, 20, 41)
	for range d.below(most + 1) {
		h.Parts = append(h.Parts, api.SaltPart{Kind: d.below(len(h.Kinds)), Pounds: d.below(pounds)})
	}
	for range d.below(api.MaxSaltBarrels) {
		h.Barrels = append(h.Barrels, d.below(min(100, 4*pounds)))
	}
	return h
}

// town returns a valid town.
func (d *dice) town() api.HeadTown {
	if d.below(10) == 0 {
		return one(d, town(), bare(), largest())
	}
	return api.HeadTown{Net: d.net(), Torn: d.torn(5), House: d.house(5)}
}

// number returns a number that is mostly one from another one to an end.
func (d *dice) number(low, end int) int {
	if d.below(20) == 0 {
		return one(d, low-1, end+1, -3, 999999, -999999)
	}
	return low + d.below(end-low+1)
}

// words returns a word and some numbers.
func words(word string, n ...int) string {
	for _, number := range n {
		word += " " + strconv.Itoa(number)
	}
	return word
}

// ends returns two numbers that are mostly the ends of a span.
func (d *dice) ends(end int) (int, int) {
	s := d.span(end)
	if d.below(12) == 0 {
		return s.High + 1, s.Low
	}
	return s.Low, s.High
}

// change returns a line that changes a town: its net (0), its torn net (1), or its house (2).
func (d *dice) change(part int) string {
	switch part {
	case 0:
		low, high := d.ends(one(d, 4, 8, 21))
		return one(d, words("wind", low, high), words("current", low, high), words("heavy", d.number(0, 5), d.number(0, 20)), words("heavy", d.number(0, 2), d.number(0, 20)))
	case 1:
		low, high := d.ends(one(d, 3, 20))
		return one(d, words("torn", d.number(0, 20), low, high, d.number(1, 9)), words("torn", 0, low, high, d.number(1, 4)), words("rope", d.number(0, 4), d.number(0, 4)), words("menders", d.number(1, 3)), "mended", "mended")
	}
	return one(d, words("part", d.number(0, 2), d.number(0, 40)), words("part", 0, d.number(0, 15)), words("barrel", d.number(0, 99)), words("barrel", d.number(0, 30)))
}

// ask returns a line that asks something of a part of a town.
func (d *dice) ask(part int) string {
	switch part {
	case 0:
		return one(d, "safe", "storm", "need")
	case 1:
		return one(d, "loss", "order", "done")
	}
	return one(d, "salt", "pack", words("early", d.number(0, 20)), words("early", 20), "buy")
}

// order returns a line that gives an order, which does not wait for long, or holds in this town.
func (d *dice) order(t api.HeadTown, part int) string {
	asks := d.ask(part)
	for asks == "need" || asks == "order" || asks == "pack" {
		asks = d.ask(part)
	}
	value, e := ask(t, asks)
	if e != api.OK {
		value = d.below(30)
	}
	n := value.(int)
	wait := one(d, words(" <", n), words(" <", n-d.below(5)), words(" >", n), words(" >", n+d.below(5)), words(" =", n+d.below(7)-3), words(" >", n-1), words(" <", n+1), words(" >", d.number(0, 60)), words(" =", one(d, 0, 1, 2, 3)))
	return "when " + asks + wait + " then " + d.change(d.below(3))
}

// garbled returns a line with something wrong, mostly.
func (d *dice) garbled(line string) string {
	at := d.below(len(line) + 1)
	switch d.below(4) {
	case 0:
		return line[:at] + one(d, " ", "0", "-", "+", "x", "9", ">", "\t", "\xff", " 1", " then mended") + line[at:]
	case 1:
		return line[:at] + line[min(len(line), at+1):]
	case 2:
		return line[:at]
	}
	return line[at:]
}

// line returns any line, for a town and so many orders.
func (d *dice) line(t api.HeadTown, given int) string {
	part := d.below(3)
	line := ""
	switch d.below(12) {
	case 0, 1:
		line = d.ask(part)
	case 2, 3, 4, 5, 6:
		line = d.change(part)
	case 7:
		line = words("forget", d.number(0, given))
	default:
		line = d.order(t, part)
	}
	if d.below(12) == 0 {
		return d.garbled(line)
	}
	return line
}

// tale is lines that a town was told, the answers of the model, and the model behind the last one.
type tale struct {
	start          api.HeadTown
	lines, answers []string
	last           model
}

// told returns a tale of so many lines.
func (d *dice) told(many int) tale {
	x := tale{start: d.town()}
	x.last.town = x.start
	for range many {
		line := d.line(x.last.town, len(x.last.orders))
		x.lines = append(x.lines, line)
		x.answers = append(x.answers, x.last.hear(line))
	}
	return x
}

// tales returns so many tales, the same ones each time.
func tales(seed, many int) []tale {
	d := dice(seed)
	var list []tale
	for range many {
		list = append(list, d.told(d.below(api.MaxHeadLines+1)))
	}
	return list
}

// P12.2: all answers, the town and the orders are those of the model.
func TestModel(t *testing.T) {
	found := map[string]int{}
	for _, x := range tales(1, 8000) {
		got := run(t, x.start, x.lines...)
		for i, answer := range got.answers {
			if answer != x.answers[i] {
				t.Fatalf("%v: of %q, %q is answered %q, not %q", x.start, x.lines[:i], x.lines[i], answer, x.answers[i])
			}
			done := strings.Count(answer, ":")
			switch {
			case done > 2:
				found["more than two orders are done"]++
			case done > 1:
				found["two orders are done"]++
			case done > 0 && !strings.HasPrefix(x.lines[i], "when"):
				found["an order is done later"]++
			case done > 0:
				found["an order is done at once"]++
			}
			if strings.HasSuffix(answer, ":no") {
				found["an order is refused when it is done"]++
			}
			word, _, _ := strings.Cut(x.lines[i], " ")
			own, _, _ := strings.Cut(answer, " ")
			switch own {
			case "ok", "no":
				found[word+" is answered "+own]++
			case "none", "wrong", "nothing", "what":
				found[own]++
			}
		}
		if !slices.Equal(got.left, x.last.left()) || !same(got.after, x.last.town) {
			t.Fatalf("%v: Run of %q = %v, %q, not %v, %q", x.start, x.lines, got.after, got.left, x.last.town, x.last.left())
		}
		if len(got.left) > 1 {
			found["orders stand at last"]++
		}
	}
	for _, what := range []string{
		"more than two orders are done", "two orders are done", "an order is done later", "an order is done at once", "an order is refused when it is done", "orders stand at last",
		"none", "wrong", "nothing", "what", "wind is answered ok", "wind is answered no", "current is answered ok", "current is answered no", "heavy is answered ok", "heavy is answered no",
		"torn is answered ok", "torn is answered no", "rope is answered ok", "rope is answered no", "menders is answered ok", "menders is answered no", "mended is answered ok", "mended is answered no",
		"part is answered ok", "part is answered no", "barrel is answered ok", "barrel is answered no", "when is answered ok", "when is answered no", "forget is answered ok", "forget is answered no",
	} {
		if found[what] < 20 {
			t.Errorf("too few lines: %s (%d)", what, found[what])
		}
	}
}
