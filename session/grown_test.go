package session

import (
	"slices"
	"strconv"
	"strings"
	"testing"

	"retrace/api"
)

func grownRun(t testing.TB, g *grower) *plainRun {
	return g.run(t, []int{20, 100, 700, 1500}[g.Intn(4)])
}

func (g *grower) budget() int {
	return []int{-1, 0, 1, 3, 8, 20, 50, 200, 1000, 5000, api.MaxBudget}[g.Intn(11)]
}

// P0.8, P24.2, P24.3: any lines in any order, at any run.
func TestGrownLines(t *testing.T) {
	stops, errors := [7]int{}, map[api.Errno]int{}
	for seed := range seeds(800) {
		g := newGrower(seed)
		p := grownRun(t, g).pair(t, g.budget())
		for range 60 + g.Intn(100) {
			line := ""
			switch g.Intn(6) {
			case 0:
				line = g.setting()
			case 1, 2, 3:
				line = g.question()
			default:
				line = g.movement(&p.plain)
			}
			if told, unknown := p.does(line); !unknown {
				stops[told.Stop.Kind]++
				errors[told.Status]++
			}
		}
	}
	for kind, count := range stops {
		if count == 0 {
			t.Errorf("the stop %d never came", kind)
		}
	}
	for _, errno := range []api.Errno{api.OK, api.ErrOver, api.ErrStart, api.ErrBudget, api.ErrCommand, api.ErrPoint, api.ErrExpr, api.ErrUnseen, api.ErrType, api.ErrToken, api.ErrTrap} {
		if errors[errno] == 0 {
			t.Errorf("the error %d never came", errno)
		}
	}
}

// P24.5: whatever only asks, and what is no command, may stand in a script or not.
func TestGrownAsking(t *testing.T) {
	for seed := range seeds(400) {
		g := newGrower(seed + 3000)
		r := grownRun(t, g)
		p := r.pair(t, 1000)
		var bare []api.Response
		var places []int // of these in the script that asks too
		plain, asking := "", ""
		lines := 0
		for range 40 {
			for range g.Intn(3) {
				asking += g.question() + "\n"
				lines++
			}
			line := g.movement(&p.plain)
			if g.Intn(5) == 0 {
				line = g.setting()
			}
			told, unknown := p.does(line)
			if unknown {
				break
			}
			bare, places = append(bare, told), append(places, lines)
			plain += line + "\n"
			asking += line + "\n"
			lines++
		}
		sameScript(t, r, plain, 0, bare)
		asked, problem := Script(r.text, r.input, r.limits, 1000, asking+g.question()+"\n")
		if problem != (api.Problem{}) || len(asked) != lines+1 {
			t.Fatalf("P24.4: %q: %d responses, %+v", asking, len(asked), problem)
		}
		for n, place := range places {
			if !same(asked[place], bare[n]) {
				t.Fatalf("P24.5: %q: response %d is %+v, without what asks %+v", asking, place+1, asked[place], bare[n])
			}
		}
	}
}

// reaches brings a pair to a position by gotos, if the budget leads there.
func reaches(p *pair, at int) bool {
	for range 2000 {
		before := p.plain.at
		told, unknown := p.does("goto " + strconv.Itoa(at))
		if unknown || told.Status == api.ErrBudget && p.plain.at == before {
			return false
		}
		if p.plain.at == at && !p.plain.over {
			return true
		}
	}
	return false
}

// P0.7, P24.6: at a position a session answers alike, whatever was done ahead: other ways there, other points, another budget; and with the same points and budget it goes on alike.
func TestGrownCursor(t *testing.T) {
	met := 0
	for seed := range seeds(400) {
		g := newGrower(seed + 6000)
		r := grownRun(t, g)
		budget := []int{40, 300, 5000, api.MaxBudget}[g.Intn(4)]
		straight, astray, other := r.pair(t, budget), r.pair(t, budget), r.pair(t, g.budget())
		for range 1 + g.Intn(6) {
			line := g.setting()
			straight.does(line)
			astray.does(line)
			other.does(g.setting())
		}
		for range 10 + g.Intn(30) {
			astray.does(g.movement(&astray.plain))
			other.does(g.movement(&other.plain))
		}
		target := g.Intn(r.last() + 1)
		if !reaches(straight, target) || !reaches(astray, target) {
			continue
		}
		pairs := []*pair{straight, astray}
		if reaches(other, target) {
			pairs = append(pairs, other)
			met++
		}
		for _, line := range asking {
			if line != "points" {
				sameAnswer(t, line, pairs...)
			}
		}
		for range 20 {
			line := g.movement(&straight.plain)
			if !sameAnswer(t, line, straight, astray) {
				break
			}
			sameAnswer(t, "event", straight, astray)
			sameAnswer(t, "locals", straight, astray)
			sameAnswer(t, "output", straight, astray)
		}
	}
	if met == 0 {
		t.Errorf("no session with another budget came there")
	}
}

// sameAnswer does a line in some sessions, and tells whether what is answered is known of the run.
func sameAnswer(t *testing.T, line string, pairs ...*pair) bool {
	t.Helper()
	first, unknown := pairs[0].does(line)
	if unknown {
		return false
	}
	for _, p := range pairs[1:] {
		if told, _ := p.does(line); !same(told, first) {
			t.Fatalf("P24.6: %q: %+v and %+v", line, first, told)
		}
	}
	return true
}

// P24.4: the lines of a text of any bytes are those between its line feeds.
func TestGrownScripts(t *testing.T) {
	r := plainly(t, adding, enough, 100, 3)
	for seed := range seeds(600) {
		g := newGrower(seed + 12000)
		var lines []string
		for range g.Intn(12) {
			lines = append(lines, g.pick("", "", "step", "back", " next\t", "step\r", "\r", "points", "locals", "where\x00", "\xff", "output "))
		}
		script := strings.Join(lines, "\n")
		if len(lines) > 0 && lines[len(lines)-1] == "" {
			lines = lines[:len(lines)-1]
		}
		p := r.pair(t, 1000)
		var want []api.Response
		for _, line := range lines {
			told, _ := p.does(line)
			want = append(want, told)
		}
		sameScript(t, r, script, 0, want)
		if !strings.HasSuffix(script, "\n") && script != "" {
			sameScript(t, r, script+"\n", 0, slices.Clone(want))
		}
	}
}
