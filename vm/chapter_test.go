package vm

import (
	"strings"
	"testing"

	"retrace/api"
)

const example = "main 0;fn main 0 - int;int 2;int 3;bin *;store 0;show 7 0;load 0;print 1;done"

// The chapter's first table.
func TestExample(t *testing.T) {
	six := api.Yield{Hook: 7, Has: true, Value: i(6)}
	m, errno := New(assembled(t, example), nil, api.Limits{Depth: 1})
	if errno != api.OK || m.Steps() != 0 || m.Depth() != 1 {
		t.Fatalf("New: %d, %d steps, %d frames", errno, m.Steps(), m.Depth())
	}
	for n := range 4 {
		if y, yields := m.Step(); yields || y != (api.Yield{}) {
			t.Errorf("Step %d yields %v", n+1, y)
		}
	}
	if y, yields := m.Step(); !yields || y != six {
		t.Errorf("Step 5: %v, %v", y, yields)
	}
	if run := m.Result(); !sameRun(run, api.Run{Steps: 5, Arrays: [][]api.Value{{}}}) {
		t.Errorf("behind 5 steps: %v", run)
	}
	if y, yields := m.Run(100); yields || y != (api.Yield{}) {
		t.Errorf("Run yields %v", y)
	}
	ended := api.Run{Outcome: api.Outcome{Phase: api.Ended}, Output: "6\n", Steps: 8, Arrays: [][]api.Value{{}}}
	for range 2 {
		if run := m.Result(); !sameRun(run, ended) || m.Depth() != 0 {
			t.Errorf("at the end: %v, %d frames", run, m.Depth())
		}
		if y, yields := m.Step(); yields || y != (api.Yield{}) {
			t.Errorf("behind the end: %v", y)
		}
	}
	m, _ = New(assembled(t, example), nil, api.Limits{Depth: 1})
	if y, yields := m.Run(100); !yields || y != six || m.Steps() != 5 {
		t.Errorf("Run: %v, %v, behind %d steps", y, yields, m.Steps())
	}
}

// The chapter's second table.
func TestExamplesOfCodes(t *testing.T) {
	none := [][]api.Value{{}}
	for _, row := range []struct {
		text  string
		input []int64
		l     api.Limits
		want  api.Run
		depth int
	}{
		{"read;print 1;done", []int64{5}, api.Limits{Depth: 1}, api.Run{Output: "5\n", Input: 1, Steps: 3, Arrays: none}, 0},
		{"read;print 1;done", nil, api.Limits{Depth: 1}, api.Run{Outcome: api.Outcome{Trap: api.TrapInput}, Steps: 1, Arrays: none}, 1},
		{"call 0;done", nil, api.Limits{Depth: 3}, api.Run{Outcome: api.Outcome{Trap: api.TrapDepth}, Steps: 3, Arrays: none}, 3},
		{"int 1;int 0;bin /;done", nil, api.Limits{Depth: 1}, api.Run{Outcome: api.Outcome{Trap: api.TrapDivide}, Steps: 3, Arrays: none}, 1},
		{"pop", nil, api.Limits{Depth: 1}, api.Run{Outcome: api.Outcome{Trap: api.TrapStuck}, Steps: 1, Arrays: none}, 1},
		{"nop", nil, api.Limits{Depth: 1}, api.Run{Outcome: api.Outcome{Trap: api.TrapStuck}, Steps: 2, Arrays: none}, 1},
		{"jump 5", nil, api.Limits{Depth: 1}, api.Run{Outcome: api.Outcome{Trap: api.TrapStuck}, Steps: 1, Arrays: none}, 1},
		{"load 0", nil, api.Limits{Depth: 1}, api.Run{Outcome: api.Outcome{Trap: api.TrapStuck}, Steps: 1, Arrays: none}, 1},
		{"int 4;new int;done", nil, api.Limits{Depth: 1, Cells: 4}, api.Run{Outcome: api.Outcome{Trap: api.TrapHeap}, Steps: 2, Arrays: none}, 1},
		{"int 4;new int;done", nil, api.Limits{Depth: 1, Cells: 5}, api.Run{Steps: 3, Arrays: [][]api.Value{{}, {i(0), i(0), i(0), i(0)}}}, 0},
	} {
		row.want.Outcome.Phase = api.Trapped
		if row.want.Outcome.Trap == api.NoTrap {
			row.want.Outcome.Phase = api.Ended
		}
		c := assembled(t, "main 0;fn main 0 -;"+row.text)
		m, _ := New(c, row.input, row.l)
		m.Run(100)
		if run := m.Result(); !sameRun(run, row.want) || m.Depth() != row.depth {
			t.Errorf("%s: %v, %d frames, want %v, %d", row.text, run, m.Depth(), row.want, row.depth)
		}
		runs(t, c, row.input, row.l).run(t, 100)
	}
	if m, errno := New(assembled(t, "main 0;fn main 1 - int;done"), nil, api.Limits{Depth: 1}); m != nil || errno != api.ErrStuck {
		t.Errorf("main with a parameter: %v, %d", m, errno)
	}
}

// P16.1: each error, and the order in which they are looked for.
func TestNew(t *testing.T) {
	good, wrong, result := assembled(t, example), assembled(t, example), assembled(t, "main 0;fn main 0 text;jump 0")
	wrong.Main = 1
	both := assembled(t, "main 1;fn f 0 -;done;fn main 2 int int bool bool;jump 1")
	large := good
	large.Texts = make([]string, 4001)
	wrongAndParams := assembled(t, "main 0;fn main 1 - int;done")
	wrongAndParams.Instrs[0].A = 1
	codes := map[string]api.Code{"good": good, "wrong": wrong, "result": result, "both": both, "large": large, "wrong and params": wrongAndParams, "none": {}}
	want := map[string]api.Errno{"good": api.OK, "wrong": api.ErrCode, "result": api.ErrStuck, "both": api.ErrStuck, "large": api.ErrSize, "wrong and params": api.ErrCode, "none": api.ErrCode}
	for name, c := range codes {
		for _, count := range []int{0, 1, 999, 1000, 1001, 5000} {
			for _, depth := range []int{-1 << 63, -1, 0, 1, 2, 999, 1000, 1001, 1<<63 - 1} {
				for _, cells := range []int{-1 << 63, -1, 0, 1, 99999, 100000, 100001, 1<<63 - 1} {
					l, input := api.Limits{Depth: depth, Cells: cells}, make([]int64, count)
					wanted := want[name]
					if count > 1000 || depth < 1 || depth > 1000 || cells < 0 || cells > 100000 {
						wanted = api.ErrArg
					}
					if _, errno := news(t, c, input, l); errno != wanted {
						t.Errorf("%s, %d numbers, %v: %d, want %d", name, count, l, errno, wanted)
					}
					for _, text := range []string{"", "V"} {
						_, errno := loads(t, c, input, l, text)
						if wanted == api.OK && errno != api.ErrSave || wanted != api.OK && errno != wanted {
							t.Errorf("%s, %d numbers, %v: Load %d, want %d", name, count, l, errno, wanted)
						}
					}
				}
			}
		}
	}
}

// P16.1: a new machine, whichever function is main, and slots of all sorts.
func TestBeginning(t *testing.T) {
	c := assembled(t, "main 1;fn f 0 -;nop;done;fn g 0 - int bool text [int] [bool] [text] [[int]] [[[[text]]]];nop;done;fn h 0 -;done")
	p := runs(t, c, []int64{7}, api.Limits{Depth: 2, Cells: 3})
	want := "V" + strings.Repeat("\x00", 2+8+8+3) + "\x01" + "\x01\x00\x00\x00\x02" + "\x01" + strings.Repeat("\x00", 8) + "\x02\x00" + "\x03\x00\x00" + strings.Repeat("\x04"+strings.Repeat("\x00", 8), 5) + "\x00\x00" + strings.Repeat("\x00", 8) + strings.Repeat("\x00", 7) + "\x09" + "H" + strings.Repeat("\x00", 8)
	if got := p.m.Save(); got != want {
		t.Errorf("Save is %x, want %x", got, want)
	}
	p.run(t, 9)
	if p.st.outcome.Phase != api.Ended || p.st.steps != 2 {
		t.Errorf("%v", p.st.result())
	}
}

// P16.4: Run is Steps, up to the first that yields.
func TestRun(t *testing.T) {
	c := assembled(t, "main 0;fn main 0 - bool;nop;emit 3;nop;nop;bool true;tell 5;store 0;show 9 0;load 0;false 0;int 1;emit 4;int 0;bin /;emit 8")
	for _, most := range []int{1, 2, 3, 4, 5, 100, 1000000, 1000001, 1<<63 - 1} {
		m, _ := New(c, nil, api.Limits{Depth: 1})
		st, _ := begun(c, nil, api.Limits{Depth: 1})
		for range 20 {
			for _, none := range []int{0, -1, -1 << 63} {
				before := m.Save()
				if y, yields := m.Run(none); yields || y != (api.Yield{}) || m.Save() != before {
					t.Fatalf("Run(%d): %v, %v", none, y, yields)
				}
			}
			y, yields := m.Run(most)
			var want yield
			for n := 0; n < most && st.outcome.Phase == api.Running && !want.yields; n++ {
				st, want = st.step()
			}
			if got := (yield{y, yields}); got != want || m.Save() != st.save() {
				t.Fatalf("Run(%d): %v, behind %d steps, want %v, %d", most, got, m.Steps(), want, st.steps)
			}
		}
		if got := m.Result(); got.Outcome != (api.Outcome{Phase: api.Trapped, Trap: api.TrapDivide}) || got.Steps != 14 {
			t.Errorf("Run(%d): at the end %v", most, got)
		}
	}
}

// P16.4: a Run does no more than MaxBudget steps.
func TestRunIsBounded(t *testing.T) {
	c := assembled(t, "main 0;fn main 0 -;nop;jump 0")
	for _, row := range [][2]int{{999999, 999999}, {1000000, 1000000}, {1000001, 1000000}, {1<<63 - 1, 1000000}} {
		m, _ := New(c, nil, api.Limits{Depth: 1})
		for turn := 1; turn <= 2; turn++ {
			if y, yields := m.Run(row[0]); yields || y != (api.Yield{}) || m.Steps() != turn*row[1] {
				t.Errorf("Run(%d): %v, %v, %d steps", row[0], y, yields, m.Steps())
			}
		}
	}
	late := assembled(t, "main 0;fn main 0 - int;load 0;int 1;bin +;store 0;load 0;int 125000;bin ==;false 0;emit 1;done")
	// The emit is step 125000 * 8 + 1, one behind the last that a Run may do.
	m, _ := New(late, nil, api.Limits{Depth: 1})
	if y, yields := m.Run(1 << 40); yields || y != (api.Yield{}) || m.Steps() != 1000000 {
		t.Errorf("%v, %v, %d steps", y, yields, m.Steps())
	}
	if y, yields := m.Run(1); !yields || y != (api.Yield{Hook: 1}) || m.Steps() != 1000001 {
		t.Errorf("%v, %v, %d steps", y, yields, m.Steps())
	}
}

// P16.2: where a step traps nothing changes but the count of steps and the outcome; place and stack stay.
func TestTrapsChangeNothing(t *testing.T) {
	for _, row := range []struct {
		text string
		trap api.Trap
	}{
		{"fn main 0 -;int 7;int 0;bin %;done", api.TrapDivide},
		{"fn main 0 -;int 7;bool true;bin +;done", api.TrapStuck},
		{"fn main 0 -;text 0;int 50;get;done", api.TrapIndex},
		{"fn main 0 -;int 1;new bool;int 1;bool true;put;done", api.TrapIndex},
		{"fn main 0 -;int 1;new bool;int 0;int 0;put;done", api.TrapStuck},
		{"fn main 0 -;int 1;new bool;bool true;int 0;put;done", api.TrapStuck},
		{"fn main 0 -;int 9;new text;done", api.TrapHeap},
		{"fn main 0 -;int 2;int 3;call 1;done;fn f 2 - int int;int 4;int 5;call 1;done", api.TrapDepth},
		{"fn main 0 -;int 2;int 3;call 1;done;fn f 2 - int bool;done", api.TrapStuck},
		{"fn main 0 -;int 2;int 3;call 1;done;fn f 2 - bool int;done", api.TrapStuck},
		{"fn main 0 -;read;read;read;done", api.TrapInput},
		{"fn main 0 - int;int 2;bool false;store 0;done", api.TrapStuck},
		{"fn main 0 - int;int 2;int 3;store 1;done", api.TrapStuck},
		{"fn main 0 -;int 2;bool false;false 9;done", api.TrapStuck},
		{"fn main 0 -;bool false;int 2;false 0;done", api.TrapStuck},
		{"fn main 0 -;int 1;int 2;int 0;new int;print 3;done", api.TrapStuck},
		{"fn main 0 -;int 0;new int;int 1;int 2;print 3;done", api.TrapStuck},
		{"fn main 0 -;int 1;int 2;print 3;done", api.TrapStuck},
		{"fn main 0 -;int 0;new int;str;done", api.TrapStuck},
		{"fn main 0 -;int 8;len;done", api.TrapStuck},
		{"fn main 0 -;int 8;int 0;get;done", api.TrapStuck},
		{"fn main 0 -;int 3;ret;done", api.TrapStuck},
		{"fn main 0 -;call 1;done;fn f 0 int;text 0;ret", api.TrapStuck},
		{"fn main 0 -;call 1;done;fn f 0 -;text 0;ret", api.TrapStuck},
		{"fn main 0 -;call 1;done;fn f 0 int;int 1;done", api.TrapStuck},
		{"fn main 0 -;text 0;text 0;bin +;text 0;bin +;text 0;bin +;text 0;bin +;text 0;bin +;text 0;bin +;done", api.TrapLong},
		{"fn main 0 -;show 1 0;done", api.TrapStuck},
		{"fn main 0 -;tell 1;done", api.TrapStuck},
	} {
		p := runs(t, assembled(t, "main 0;pool \""+strings.Repeat("x", 50)+"\";"+row.text), []int64{4, 5}, api.Limits{Depth: 2, Cells: 9})
		before := p.st
		for p.st.outcome.Phase == api.Running {
			before = p.st
			p.step(t)
		}
		before.steps++
		before.outcome = api.Outcome{Phase: api.Trapped, Trap: row.trap}
		if p.m.Save() != before.save() {
			t.Errorf("%s: %x, want %x", row.text, p.m.Save(), before.save())
		}
		p.step(t)
	}
}

// P16.3: traps that are told later do not hide those that are told first.
func TestOrderOfTraps(t *testing.T) {
	full := strings.Repeat("int 1;", 400)
	for _, row := range []struct {
		text  string
		input []int64
		trap  api.Trap
	}{
		{"fn main 0 -;" + full + "read;done", nil, api.TrapInput},
		{"fn main 0 -;" + full + "read;done", []int64{1}, api.TrapStuck},
		{"fn main 0 -;call 1", nil, api.TrapStuck},
		{"fn main 0 -;call 1;done;fn f 1 - int;done", nil, api.TrapStuck},
		{"fn main 0 -;bool true;call 1;done;fn f 1 - int;done", nil, api.TrapStuck},
		{"fn main 0 -;int 1;call 1;done;fn f 1 - int;done", nil, api.TrapDepth},
		{"fn main 0 -;" + full + "call 1;done;fn f 0 int;done", nil, api.TrapDepth},
		{"fn main 0 -;int 0;new int;int 5;bool true;put;done", nil, api.TrapIndex},
		{"fn main 0 -;int 0;new int;bool true;bool true;put;done", nil, api.TrapStuck},
		{"fn main 0 -;int 5;int 5;int 5;put;done", nil, api.TrapStuck},
		{"fn main 0 -;int -1;new int;done", nil, api.TrapIndex},
		{"fn main 0 -;bool true;new int;done", nil, api.TrapStuck},
		{"fn main 0 -;int 9;new int;done", nil, api.TrapHeap},
	} {
		p := runs(t, assembled(t, "main 0;"+row.text), row.input, api.Limits{Depth: 1, Cells: 1})
		for range 500 {
			p.m.Step()
			p.st, _ = p.st.step()
		}
		p.agrees(t)
		if p.m.Result().Outcome != (api.Outcome{Phase: api.Trapped, Trap: row.trap}) || p.m.Result().Input != 0 {
			t.Errorf("%s: %v, want %d", row.text[len(row.text)-min(50, len(row.text)):], p.m.Result(), row.trap)
		}
	}
}

// P16.11: what was not made by New, Load or Clone does nothing, and does not panic.
func TestNoMachine(t *testing.T) {
	m := new(Machine)
	for _, m := range []*Machine{m, m.Clone()} {
		if y, yields := m.Step(); yields || y != (api.Yield{}) {
			t.Errorf("Step: %v", y)
		}
		if y, yields := m.Run(9); yields || y != (api.Yield{}) {
			t.Errorf("Run: %v", y)
		}
		if !sameRun(m.Result(), api.Run{Arrays: [][]api.Value{{}}}) || m.Steps() != 0 || m.Depth() != 0 || m.Save() == "" {
			t.Errorf("%v", m.Result())
		}
	}
}
