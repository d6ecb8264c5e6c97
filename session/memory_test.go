package session

import (
	"reflect"
	"runtime"
	"slices"
	"strings"
	"sync"
	"testing"
	"unsafe"

	"retrace/api"
)

const rich = "fn join(left: text, right: text): text {\nreturn left + right; }\nfn main() { var name: text = \"some text\"; var list: [text] = new text[3];\nlist[0] = name; var count: int = 0;\nouter: for turn = 1 to 2 { read count; print turn, count, list[turn]; while true { break outer; } }\nname = join(list[0], \"more\"); print name; }"

// tour are lines of all kinds, which lead through the rich run.
var tour = []string{"points", "break join if len(right) == 4", "watch name", "continue", "locals", "list", "continue", "stack", "where", "print left + right", "print left", "disable 2", "points", "step", "next", "finish", "event", "output", "rnext", "rcontinue", "locals", "print name", "goto 12", "rfinish", "jump", "print q", "delete 2", "points", "goto 99", "output", "event", "back", "output", "list", "locals", "print list[0]"}

// span is a piece of memory.
type span struct {
	what        string
	first, last uintptr
}

// spans is the memory of all lists and texts within a value, spare room included.
func spans(what string, v reflect.Value) []span {
	var all []span
	switch v.Kind() {
	case reflect.Struct:
		for n := range v.NumField() {
			all = append(all, spans(what+"."+v.Type().Field(n).Name, v.Field(n))...)
		}
	case reflect.Slice:
		all = append(all, span{what, v.Pointer(), v.Pointer() + uintptr(v.Cap())*v.Type().Elem().Size()})
		for n := range v.Len() {
			all = append(all, spans(what+"[]", v.Index(n))...)
		}
	case reflect.Map:
		for _, key := range v.MapKeys() {
			all = append(all, spans(what+"[]", v.MapIndex(key))...)
		}
	case reflect.String:
		first := uintptr(unsafe.Pointer(unsafe.StringData(v.String())))
		all = append(all, span{what, first, first + uintptr(v.Len())})
	}
	return all
}

func apart(t *testing.T, a, b []span) {
	t.Helper()
	for _, one := range a {
		for _, other := range b {
			if one.first < other.last && other.first < one.last {
				t.Fatalf("P24.7: the %s shares memory with the %s", one.what, other.what)
			}
		}
	}
}

// keeping is the memory of all that a session keeps.
func keeping(s *Session) []span { return spans("session", reflect.ValueOf(s).Elem()) }

// loose is a text whose bytes can still be written.
func loose(text string) ([]byte, string) {
	room := []byte(text + " ")
	return room, unsafe.String(&room[0], len(text))
}

func spoil(room []byte) {
	for n := range room {
		room[n] = '!'
	}
}

// P24.7: what is told is new memory: apart from what was handed in, from what the session keeps, and from all else that is told; two sessions are apart too.
func TestNewMemory(t *testing.T) {
	_, source := loose(rich)
	input := []int64{7, 8}
	given := append(spans("source", reflect.ValueOf(source)), spans("input", reflect.ValueOf(input))...)
	var kept []any
	var answers []span
	var both []*Session
	for range 2 {
		s := sessionOf(t, source, enough, 1000, input...)
		both = append(both, s)
		for _, text := range tour {
			_, line := loose(text)
			given = append(given, spans("line "+text, reflect.ValueOf(line))...)
			r := s.Do(line)
			kept = append(kept, line, r)
			answers = append(answers, spans("answer to "+text, reflect.ValueOf(r))...)
		}
	}
	for n := range answers {
		apart(t, answers[n:n+1], answers[n+1:])
	}
	for _, s := range both {
		apart(t, answers, keeping(s))
		apart(t, given, keeping(s))
	}
	apart(t, answers, given)
	apart(t, keeping(both[0]), keeping(both[1]))
	if len(answers) < 150 || len(keeping(both[0])) < 200 {
		t.Errorf("%d and %d spans", len(answers), len(keeping(both[0])))
	}
	runtime.KeepAlive([]any{source, input, kept, both})
}

// P24.7: the responses to a script are apart from each other and from what was handed in.
func TestScriptMemory(t *testing.T) {
	_, source := loose(rich)
	_, script := loose(strings.Join(tour, "\n"))
	input := []int64{7, 8}
	given := append(spans("source", reflect.ValueOf(source)), spans("input", reflect.ValueOf(input))...)
	given = append(given, spans("script", reflect.ValueOf(script))...)
	first, _ := Script(source, input, enough, 1000, script)
	second, _ := Script(source, input, enough, 1000, script)
	answers := append(spans("answer", reflect.ValueOf(first)), spans("answer", reflect.ValueOf(second))...)
	for n := range answers {
		apart(t, answers[n:n+1], answers[n+1:])
	}
	apart(t, answers, given)
	if len(first) != len(tour) || len(answers) < 150 {
		t.Errorf("%d responses, %d spans", len(first), len(answers))
	}
	runtime.KeepAlive([]any{source, script, input, first, second})
}

// P24.7: what becomes of what was handed in, or of an answer, makes no difference, whenever it is.
func TestChanged(t *testing.T) {
	r := plainly(t, rich, enough, 200, 7, 8)
	for when := range tour {
		room, source := loose(rich)
		input := []int64{7, 8}
		p := r.pair(t, 1000)
		p.session = sessionOf(t, source, enough, 1000, input...)
		for n, text := range tour {
			if n == when {
				spoil(room)
				input[0], input[1] = 1, 2
			}
			bytes, line := loose(text)
			want, _ := p.plain.do(text)
			told := p.session.Do(line)
			if !same(told, want) {
				p.wrong("P24.7", told, want)
			}
			spoil(bytes)
			for n := range told.Lines[:cap(told.Lines)] {
				told.Lines[:cap(told.Lines)][n] = "!"
			}
		}
		p.asks()
	}
}

// What is handed in is not changed, spare room included.
func TestUnchanged(t *testing.T) {
	room := []int64{7, 8, 9, 10}
	bytes, source := loose(rich)
	scriptBytes, script := loose(strings.Join(tour, "\n"))
	before := []string{string(bytes), string(scriptBytes)}
	if _, problem := Script(source, room[:2], enough, 1000, script); problem != (api.Problem{}) {
		t.Fatalf("%+v", problem)
	}
	s := sessionOf(t, source, enough, 1000, room[:2]...)
	for _, line := range tour {
		s.Do(line)
	}
	if !slices.Equal(room, []int64{7, 8, 9, 10}) || string(bytes) != before[0] || string(scriptBytes) != before[1] {
		t.Errorf("what was handed in is changed")
	}
}

// P24.1: an input that is empty may be nil or not.
func TestEmptyInput(t *testing.T) {
	for _, input := range [][]int64{nil, {}} {
		s := sessionOf(t, adding, enough, 1000, input...)
		asks(t, s, told{"continue", 0, stopAt(api.StopEnd, 4), "at 4: trap input\nmain line 6:   read x;"})
	}
}

// P24.7: two sessions of one program: what is done in one is not seen in the other.
func TestTwoSessions(t *testing.T) {
	r := plainly(t, rich, enough, 200, 7, 8)
	pairs := []*pair{r.pair(t, 1000), r.pair(t, 30), plainly(t, adding, enough, 200, 3).pair(t, 1000)}
	g := newGrower(1)
	for range 600 {
		p := pairs[g.Intn(len(pairs))]
		if g.Intn(3) == 0 {
			p.does(g.setting())
		} else {
			p.does(g.movement(&p.plain))
		}
		for _, p := range pairs {
			p.does(g.question())
			p.does("where")
		}
	}
}

// P24.7: sessions share nothing: each can be driven in a goroutine of its own (the race detector sees if they share).
func TestAtOnce(t *testing.T) {
	want, _ := Script(rich, []int64{7, 8}, enough, 1000, strings.Join(tour, "\n"))
	told := make([][]api.Response, 6)
	var all sync.WaitGroup
	for n := range told {
		all.Go(func() {
			s, _ := Start(rich, []int64{7, 8}, enough, 1000)
			for _, line := range tour {
				told[n] = append(told[n], s.Do(line))
			}
		})
	}
	all.Wait()
	for n, list := range told {
		if !slices.EqualFunc(list, want, same) {
			t.Errorf("session %d: the same lines were answered otherwise", n)
		}
	}
}
