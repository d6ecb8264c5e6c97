package command

import (
	"runtime"
	"slices"
	"strings"
	"sync"
	"testing"
	"unsafe"

	"retrace/api"
)

// loose is a text whose bytes can still be written.
func loose(text string) ([]byte, string) {
	room := []byte(text)
	return room, unsafe.String(&room[0], len(room))
}

func spoil(room []byte) {
	for i := range room {
		room[i] = '!'
	}
}

func shares(one, other string) bool {
	if one == "" || other == "" {
		return false
	}
	first, second := uintptr(unsafe.Pointer(unsafe.StringData(one))), uintptr(unsafe.Pointer(unsafe.StringData(other)))
	return first < second+uintptr(len(other)) && second < first+uintptr(len(one))
}

// A command shares no memory with its line, nor with another command, nor its texts with each other.
func TestNewCommand(t *testing.T) {
	for _, line := range []string{"break main if a > 1", "watch xy if xy == 3", "print a + b", "break 12 if true", "watch wide"} {
		room, given := loose(line)
		got, _ := Parse(given)
		other, _ := Parse(given)
		texts := []string{given, got.Point.Name, got.Point.Cond, got.Text, other.Point.Name, other.Point.Cond, other.Text}
		for n, one := range texts {
			for _, next := range texts[n+1:] {
				if shares(one, next) {
					t.Errorf("%q: %q and %q share memory", line, one, next)
				}
			}
		}
		spoil(room)
		if want, _ := Parse(line); got != want || other != want {
			t.Errorf("%q: the command has become %+v", line, got)
		}
		runtime.KeepAlive(texts)
	}
}

// A line shares no memory with its command, nor with another line, nor with the table of words.
func TestNewText(t *testing.T) {
	for _, line := range []string{"break main if a > 1", "watch xy", "print a + b", "step", "rcontinue", "goto -300", "delete 1"} {
		c, _ := Parse(line)
		if c.Text != "" {
			_, c.Text = loose(c.Text)
		}
		got, _ := Text(c)
		other, _ := Text(c)
		for _, pair := range [][2]string{{got, other}, {got, c.Text}, {got, c.Point.Name}, {got, c.Point.Cond}, {got, rows[c.Kind].word}} {
			if shares(pair[0], pair[1]) {
				t.Errorf("%q shares memory with %q", line, pair[1])
			}
		}
		runtime.KeepAlive([]any{c, got, other})
	}
}

// What is told shares no memory with what it is told of.
func TestNewTold(t *testing.T) {
	nameRoom, name := loose("name")
	textRoom, text := loose("text")
	e := api.Event{Kind: api.EvSet, Node: 1, Name: name, Value: api.Value{Kind: api.ValText, Text: text}}
	set := Event(e)
	call := Event(api.Event{Kind: api.EvCall, Node: 1, Name: name})
	lineRoom, line := loose("a line")
	response := Response(api.Response{Lines: []string{line}})
	for _, told := range []string{set, call, response} {
		for _, given := range []string{name, text, line} {
			if shares(told, given) {
				t.Errorf("%q shares memory with %q", told, given)
			}
		}
	}
	spoil(nameRoom)
	spoil(textRoom)
	spoil(lineRoom)
	if set != `set 1 name = "text"` || call != "call 1 name" || response != "ok\n  a line\n" {
		t.Errorf("what was told has become %q, %q, %q", set, call, response)
	}
}

// What is handed in is not changed, spare room included.
func TestUnchanged(t *testing.T) {
	lines := []string{"a\\", "b\n", "spare", "more"}
	given := api.Response{Status: 3, Lines: lines[:2]}
	Response(given)
	if want := []string{"a\\", "b\n", "spare", "more"}; !slices.Equal(lines, want) || given.Status != 3 || len(given.Lines) != 2 {
		t.Errorf("the response has become %+v of %q", given, lines)
	}
	room, line := loose(" watch\tx if  y ")
	Parse(line)
	if string(room) != " watch\tx if  y " {
		t.Errorf("the line has become %q", room)
	}
}

// What a call answers hangs on nothing but what it is given: whoever calls at the same time, and however often.
func TestAtOnce(t *testing.T) {
	lines := strings.Split("break 2 if x|watch x|step|goto -3|print a  b|no such|break if||delete 07|list", "|")
	type answer struct {
		command api.Command
		errno   api.Errno
		text    string
	}
	tell := func(line string) answer {
		c, errno := Parse(line)
		text, _ := Text(c)
		return answer{c, errno, text + Event(api.Event{Kind: api.EventKind(len(line)), Name: line}) + Stop(api.Stop{Kind: api.StopKind(len(line))}, api.Outcome{}) + Response(api.Response{Lines: []string{line}})}
	}
	var want []answer
	for _, line := range lines {
		want = append(want, tell(line))
	}
	var all sync.WaitGroup
	for worker := range 4 {
		all.Go(func() {
			for n := range 2000 {
				at := (n + worker) % len(lines)
				if got := tell(lines[at]); got != want[at] {
					t.Errorf("%q: %+v, then %+v", lines[at], want[at], got)
				}
			}
		})
	}
	all.Wait()
}
