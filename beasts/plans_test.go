package beasts_test

import (
	"slices"
	"testing"

	"almadraba/api"
	"almadraba/beasts"
)

// dice is a row of numbers that are the same in each run.
type dice uint64

// below returns a number from 0 to below an end.
func (d *dice) below(end int) int {
	*d = *d*6364136223846793005 + 1442695040888963407
	return int(uint64(*d)>>33) % end
}

// some returns any chambers of so many, ascending, at least a number of them.
func (d *dice) some(chambers, many int) []int {
	for {
		var list []int
		for chamber := range chambers {
			if d.below(2) == 0 {
				list = append(list, chamber)
			}
		}
		if len(list) >= many {
			return list
		}
	}
}

// door returns a door of any chamber, with a cost up to an end.
func (d *dice) door(chambers, end int) api.BeastDoor {
	a := d.below(chambers)
	b := (a+2+d.below(chambers))%(chambers+1) + sea // any place but a
	return door(a, b, d.below(end+1))
}

// trap returns a trap of so many chambers, with any doors.
func (d *dice) trap(chambers, end int) api.BeastTrap {
	b := api.BeastTrap{Chambers: chambers, Look: d.below(min(end, 4) + 1), Eats: 1 + d.below(2), Seen: d.some(chambers, 0), Places: d.some(chambers, 1)}
	for range d.below(api.MaxBeastDoors + 1) {
		b.Doors = append(b.Doors, d.door(chambers, end))
	}
	return b
}

// openTrap returns a trap in which there is a way from each chamber to the sea.
func (d *dice) openTrap(chambers, end int) api.BeastTrap {
	b := d.trap(chambers, end)
	b.Doors = b.Doors[:min(len(b.Doors), api.MaxBeastDoors-chambers)]
	for chamber := range chambers {
		way := door(chamber, d.below(chamber+1)+sea, d.below(end+1))
		b.Doors = slices.Insert(b.Doors, d.below(len(b.Doors)+1), way)
	}
	return b
}

// row returns a trap of 4 or 5 chambers in a row, which can take many steps.
func (d *dice) row(end int) api.BeastTrap {
	b := d.openTrap(4+d.below(2), end)
	b.Doors = b.Doors[:0]
	for chamber := range b.Chambers {
		b.Doors = slices.Insert(b.Doors, d.below(chamber+1), door(chamber, chamber-1, d.below(end+1)))
	}
	b.Seen, b.Places = b.Seen[:len(b.Seen)/2], d.some(b.Chambers, 3)
	return b
}

// traps returns so many traps, the same ones each time, with costs up to an end.
func traps(seed, many, end int) []api.BeastTrap {
	d := dice(seed)
	list := []api.BeastTrap{trapB(), rowOf(1, 0), {Chambers: 1, Eats: 1, Places: []int{0}}}
	for range many / 4 {
		chambers := 1 + d.below(api.MaxBeastChambers)
		list = append(list, d.trap(chambers, end), d.openTrap(chambers, end), d.openTrap(4+d.below(2), end), d.row(end))
	}
	return list
}

// spots says of each place whether the beast can be there; the sea comes first.
type spots [api.MaxBeastChambers + 1]bool

// spotsOf returns the spots of some places.
func spotsOf(places ...int) spots {
	var s spots
	for _, place := range places {
		s[place-sea] = true
	}
	return s
}

// list returns all places of spots, ascending.
func (s spots) list() []int {
	var list []int
	for i, is := range s {
		if is {
			list = append(list, i+sea)
		}
	}
	return list
}

// goes returns where the beast is when a door was opened, if it was at a place.
func goes(d api.BeastDoor, at int) int {
	switch {
	case at == sea:
		return sea
	case at == d.A:
		return d.B
	case at == d.B:
		return d.A
	}
	return at
}

// opened returns the spots when a door was opened.
func opened(b api.BeastTrap, now spots, door int) spots {
	var next spots
	for _, at := range now.list() {
		next[goes(b.Doors[door], at)-sea] = true
	}
	return next
}

// stepsOf returns all steps of a trap, as Next prefers them.
func stepsOf(b api.BeastTrap) []api.BeastStep {
	var list []api.BeastStep
	for i := range b.Doors {
		list = append(list, open(i))
	}
	for _, chamber := range b.Seen {
		list = append(list, look(chamber))
	}
	return list
}

// costOf returns what a step costs.
func costOf(b api.BeastTrap, step api.BeastStep) int {
	if step.Kind == api.BeastLook {
		return b.Look + b.Eats
	}
	return b.Doors[step.At].Cost + b.Eats
}

// behindOf returns the spots behind a step, for each answer that can be given.
func behindOf(b api.BeastTrap, now spots, step api.BeastStep) []spots {
	if step.Kind == api.BeastOpen {
		return []spots{opened(b, now, step.At)}
	}
	if !now[step.At-sea] {
		return []spots{now}
	}
	rest := now
	rest[step.At-sea] = false
	if rest == (spots{}) {
		return []spots{now}
	}
	return []spots{rest, spotsOf(step.At)}
}

// reaches reports whether there is a way from a chamber to the sea.
func reaches(b api.BeastTrap, chamber int) bool {
	seen := spotsOf(chamber)
	for range b.Chambers {
		for _, d := range b.Doors {
			if seen[d.A-sea] {
				seen[d.B-sea] = true
			}
			if d.B != sea && seen[d.B-sea] {
				seen[d.A-sea] = true
			}
		}
	}
	return seen[0]
}

// purse is spots, and how many fish can be lost.
type purse struct {
	now  spots
	fish int
}

// tries is a trap, and what was found with fish that can be lost.
type tries struct {
	api.BeastTrap
	cans   map[purse]bool
	leasts map[spots]int
}

func triesOf(b api.BeastTrap) tries { return tries{b, map[purse]bool{}, map[spots]int{}} }

// can reports whether there is a plan by which at most so many fish are lost.
func (r tries) can(now spots, fish int) bool {
	if now == spotsOf(sea) {
		return true
	}
	key := purse{now, fish}
	is, was := r.cans[key]
	if was {
		return is
	}
	for _, step := range stepsOf(r.BeastTrap) {
		if left := fish - costOf(r.BeastTrap, step); left >= 0 {
			cannot := func(next spots) bool { return !r.can(next, left) }
			is = is || !slices.ContainsFunc(behindOf(r.BeastTrap, now, step), cannot)
		}
	}
	r.cans[key] = is
	return is
}

// least returns the least number of fish for which there is a plan, tried one after the other; one below 0 if there is no way out.
func (r tries) least(now spots) int {
	fish, was := r.leasts[now]
	if was {
		return fish
	}
	if slices.ContainsFunc(now.list(), func(at int) bool { return at != sea && !reaches(r.BeastTrap, at) }) {
		return -1
	}
	for !r.can(now, fish) {
		fish++
	}
	r.leasts[now] = fish
	return fish
}

// first returns the first step with which a plan of the least cost can begin.
func (r tries) first(now spots) api.BeastStep {
	left := r.least(now)
	all := stepsOf(r.BeastTrap)
	return all[slices.IndexFunc(all, func(step api.BeastStep) bool {
		cannot := func(next spots) bool { return !r.can(next, left-costOf(r.BeastTrap, step)) }
		return costOf(r.BeastTrap, step) <= left && !slices.ContainsFunc(behindOf(r.BeastTrap, now, step), cannot)
	})]
}

// path returns the steps that are done if the beast is in a chamber, and what they cost.
func (r tries) path(chamber int) ([]api.BeastStep, int) {
	var list []api.BeastStep
	sum, at, now := 0, chamber, spotsOf(r.Places...)
	for now != spotsOf(sea) {
		step := r.first(now)
		list = append(list, step)
		sum += costOf(r.BeastTrap, step)
		if step.Kind == api.BeastOpen {
			at = goes(r.Doors[step.At], at)
		}
		behind := behindOf(r.BeastTrap, now, step)
		now = behind[slices.IndexFunc(behind, func(next spots) bool { return next[at-sea] })]
	}
	return list, sum
}

// subsets returns all spots of a trap, also those with no place.
func subsets(b api.BeastTrap) []spots {
	all := []spots{{}}
	for i := range b.Chambers + 1 {
		for _, s := range all {
			s[i] = true
			all = append(all, s)
		}
	}
	return all
}

// P6.2: all doors, with all places.
func TestMoveOfAll(t *testing.T) {
	less, all := 0, 0
	for _, b := range traps(1, 300, 20) {
		for _, now := range subsets(b) {
			for i := range b.Doors {
				want := opened(b, now, i)
				move(t, b, now.list(), i, want.list()...)
				if all++; len(want.list()) < len(now.list()) {
					less++
				}
			}
		}
	}
	if less < 500 || all < 20000 {
		t.Errorf("too few moves: %d of %d", less, all)
	}
}

// played returns what becomes of steps, if the beast was in a chamber.
func played(b api.BeastTrap, list []api.BeastStep, chamber int) (at, lost int, answers []int) {
	at = chamber
	for _, step := range list {
		lost += costOf(b, step)
		switch {
		case step.Kind == api.BeastOpen:
			at = goes(b.Doors[step.At], at)
		case step.At == at:
			answers = append(answers, 1)
		default:
			answers = append(answers, 0)
		}
	}
	return at, lost, answers
}

// steps returns any steps of a trap, at most so many.
func (d *dice) steps(b api.BeastTrap, many int) []api.BeastStep {
	var list []api.BeastStep
	all := stepsOf(b)
	for len(all) > 0 && len(list) < many && d.below(8) > 0 {
		list = append(list, all[d.below(len(all))])
	}
	return list
}

// answersTo returns all lists of answers to the looks of some steps.
func answersTo(list []api.BeastStep) [][]int {
	all := [][]int{nil}
	for _, step := range list {
		if step.Kind == api.BeastLook {
			var longer [][]int
			for _, l := range all {
				longer = append(longer, append(slices.Clone(l), 0), append(slices.Clone(l), 1))
			}
			all = longer
		}
	}
	return all
}

// P6.3 and P6.4: any steps, from all chambers, and with all answers.
func TestRunAndAfterOfAll(t *testing.T) {
	d := dice(2)
	seas, nowhere, several := 0, 0, 0
	for _, b := range traps(2, 3000, 20) {
		list := d.steps(b, api.MaxBeastSteps)
		for chamber := range b.Chambers {
			at, lost, answers := played(b, list, chamber)
			run(t, b, list, chamber, at, lost, answers...)
			if at == sea {
				seas++
			}
		}
		for _, answers := range answersTo(list) {
			var now spots
			for _, chamber := range b.Places {
				if at, _, got := played(b, list, chamber); slices.Equal(got, answers) {
					now[at-sea] = true
				}
			}
			after(t, b, list, answers, now.list()...)
			switch len(now.list()) {
			case 0:
				nowhere++
			case 1:
			default:
				several++
			}
		}
	}
	if seas < 1000 || nowhere < 1000 || several < 1000 {
		t.Errorf("too few steps of one kind: %d, %d, %d", seas, nowhere, several)
	}
}

// noPlan checks that there is no plan.
func noPlan(t *testing.T, b api.BeastTrap) {
	t.Helper()
	got, e := beasts.Least(b)
	none(t, b, "Least", got, e)
	got, e = beasts.Blind(b)
	none(t, b, "Blind", got, e)
	step, e := beasts.Next(b)
	none(t, b, "Next", step, e)
	list, e := beasts.Script(b)
	none(t, b, "Script", list, e)
	for _, chamber := range b.Places {
		list, e := beasts.Path(b, chamber)
		none(t, b, "Path", list, e)
		paid, e := beasts.Paid(b, chamber)
		none(t, b, "Paid", paid, e)
	}
	for i := range b.Doors {
		got, e := beasts.Free(b, i)
		none(t, b, "Free", got, e)
	}
}

// planned checks all that plans are asked for, by all plans, and counts the traps of each kind.
func planned(t *testing.T, b api.BeastTrap, found map[string]int) {
	t.Helper()
	r := triesOf(b)
	var caught []int
	for chamber := range b.Chambers {
		fish := r.least(spotsOf(chamber))
		way(t, b, chamber, fish)
		if fish < 0 {
			caught = append(caught, chamber)
		}
	}
	trapped(t, b, caught...)
	fish := r.least(spotsOf(b.Places...))
	if fish < 0 {
		noPlan(t, b)
		found["without a plan"]++
		return
	}
	first := r.first(spotsOf(b.Places...))
	least(t, b, fish, first)
	if first.Kind == api.BeastLook {
		found["that begin with a look"]++
	}
	for _, chamber := range b.Places {
		list, sum := r.path(chamber)
		path(t, b, chamber, sum, list...)
		if sum < fish {
			found["in which a place costs less"]++
		}
		if len(list) > 8 {
			found["with many steps"]++
		}
	}
}

// P6.5 to P6.10: by all plans, with one fish more after the other.
func TestPlansOfAll(t *testing.T) {
	found := map[string]int{}
	for _, end := range []int{0, 1, 4} {
		for _, b := range traps(3+end, 400, end) {
			planned(t, b, found)
		}
	}
	for _, kind := range []string{"without a plan", "that begin with a look", "in which a place costs less", "with many steps"} {
		if found[kind] < 50 {
			t.Errorf("too few traps %s: %d", kind, found[kind])
		}
	}
}

// P6.13: by all plans, with each door as it is, and free.
func TestFreeOfAll(t *testing.T) {
	var found [2]int
	for _, b := range traps(4, 250, 3) {
		fish := triesOf(b).least(spotsOf(b.Places...))
		if fish < 0 {
			continue
		}
		for i := range b.Doors {
			other := b
			other.Doors = slices.Clone(b.Doors)
			other.Doors[i].Cost = 0
			less := fish - triesOf(other).least(spotsOf(b.Places...))
			free(t, b, i, less)
			found[min(less, 1)]++
		}
	}
	if slices.Min(found[:]) < 100 {
		t.Errorf("too few doors of one kind: %v", found)
	}
}

// script is doors that are opened, and what that costs.
type script struct {
	cost  int
	doors []int
}

// isBetter reports whether a script is better than another one.
func (s script) isBetter(than script) bool {
	switch {
	case s.cost != than.cost:
		return s.cost < than.cost
	case len(s.doors) != len(than.doors):
		return len(s.doors) < len(than.doors)
	}
	return slices.Compare(s.doors, than.doors) < 0
}

// longer returns, for all spots, the best script with one more door than some scripts.
func longer(b api.BeastTrap, scripts map[spots]script) map[spots]script {
	next := map[spots]script{}
	for now, s := range scripts {
		for i := range b.Doors {
			to := opened(b, now, i)
			more := script{s.cost + costOf(b, open(i)), append(slices.Clone(s.doors), i)}
			if old, was := next[to]; !was || more.isBetter(old) {
				next[to] = more
			}
		}
	}
	return next
}

// scriptOf returns the best script, and whether there is one: of those with 0, 1, 2 .. doors, until each list of chambers came.
func scriptOf(b api.BeastTrap) (script, bool) {
	var best script
	found := false
	scripts := map[spots]script{spotsOf(b.Places...): {}}
	for range 1 << b.Chambers {
		scripts = longer(b, scripts)
		if s, is := scripts[spotsOf(sea)]; is && (!found || s.isBetter(best)) {
			best, found = s, true
		}
	}
	return best, found
}

// P6.11 and P6.12: by the best scripts with each number of doors.
func TestScriptOfAll(t *testing.T) {
	without, many, later := 0, 0, 0
	for _, end := range []int{0, 2, 20} {
		for _, b := range traps(5+end, 300, end) {
			want, is := scriptOf(b)
			if !is {
				noPlan(t, b)
				without++
				continue
			}
			blind(t, b, want.cost, want.doors...)
			if len(want.doors) > api.MaxBeastSteps {
				many++
			}
			if want.doors[0] > 0 {
				later++
			}
		}
	}
	if without < 50 || many < 5 || later < 100 {
		t.Errorf("too few traps of one kind: %d, %d, %d", without, many, later)
	}
}

// P6.11 and P6.12: no row of few doors is better.
func TestScriptOfRows(t *testing.T) {
	d := dice(6)
	rows := [][]int{nil}
	for from := 0; len(rows[from]) < 6; from++ {
		for i := range 3 {
			rows = append(rows, append(slices.Clone(rows[from]), i))
		}
	}
	some := 0
	for range 150 {
		b := d.openTrap(1+d.below(3), 1+d.below(3))
		b.Doors = slices.Concat(b.Doors, []api.BeastDoor{d.door(b.Chambers, 2), d.door(b.Chambers, 2)})[:3]
		var best script
		for _, row := range rows[1:] {
			s, now := script{doors: row}, spotsOf(b.Places...)
			for _, i := range row {
				s.cost += costOf(b, open(i))
				now = opened(b, now, i)
			}
			if now == spotsOf(sea) && (best.doors == nil || s.isBetter(best)) {
				best = s
			}
		}
		if best.doors == nil || best.cost > 6*b.Eats {
			continue // a row that is longer could be better
		}
		blind(t, b, best.cost, best.doors...)
		some++
	}
	if some < 50 {
		t.Errorf("too few traps: %d", some)
	}
}
