package cells

import (
	"math"
	"math/rand"
	"strings"
	"testing"

	"retrace/api"
)

// P10.6: an element of each kind and size, byte by byte.
func TestSavedElements(t *testing.T) {
	for _, c := range []struct {
		v    api.Value
		want string
	}{
		{i(0), "\x00\x00\x00\x00\x00\x00\x00\x00"},
		{i(-1), "\xff\xff\xff\xff\xff\xff\xff\xff"},
		{i(math.MinInt64), "\x80\x00\x00\x00\x00\x00\x00\x00"},
		{i(0x1234567890abcdef), "\x12\x34\x56\x78\x90\xab\xcd\xef"},
		{b(0), "\x00"},
		{b(1), "\x01"},
		{s(""), "\x00\x00"},
		{s("ab"), "\x00\x02ab"},
		{s(strings.Repeat("w", 255)), "\x00\xff" + strings.Repeat("w", 255)},
		{s(strings.Repeat("w", 256)), "\x01\x00" + strings.Repeat("w", 256)},
		{r(0), "\x00\x00\x00\x00\x00\x00\x00\x00"},
		{r(1), "\x00\x00\x00\x00\x00\x00\x00\x01"},
	} {
		h := New(2)
		h.Make(c.v.Kind, 1)
		h.Put(r(1), 0, c.v)
		want := "H\x00\x00\x00\x00\x00\x00\x00\x01" + string(rune(c.v.Kind)) + "\x00\x00\x00\x00\x00\x00\x00\x01" + c.want
		if got := h.Save(); got != want {
			t.Errorf("Save of %v = %x, want %x", c.v, got, want)
		}
		if back, errno := Load(2, want); errno != api.OK {
			t.Errorf("Load of %v: %d", c.v, errno)
		} else {
			gets(t, back, r(1), 0, answer{value: c.v})
		}
	}
}

// P10.7: what is loaded answers as the heap that was saved, with any limit that has room for it.
func TestLoadLimits(t *testing.T) {
	p := someHeap(t, 20)
	if p.heap.Used() != 20 {
		t.Fatalf("%d cells", p.heap.Used())
	}
	for _, limit := range []int{math.MinInt64, -1, 0, 1, 19, 20, 21, 30, 99999, 100000, 100001, math.MaxInt64} {
		next, ok := p.loads(t, limit)
		if ok != (limit >= 20) {
			t.Fatalf("Load(%d) of 20 cells: %v", limit, ok)
		}
		if !ok {
			continue
		}
		next.isTold(t)
		for _, n := range []int64{1 << 62, 100000, 99980, 99979, 99978, 10, 9, 0} {
			next.makes(t, api.ValRef, n)
		}
		next.puts(t, r(4), 4, r(6))
		next.puts(t, r(1), 0, i(1))
		if int64(next.heap.Used()) > next.story.limit {
			t.Fatalf("%d cells of %d", next.heap.Used(), next.story.limit)
		}
	}
	p.isTold(t)
}

// P10.7: a new heap's bytes are a heap's with every limit.
func TestLoadNew(t *testing.T) {
	for _, limit := range []int{math.MinInt64, -1, 0, 1, math.MaxInt64} {
		p, ok := load(t, limit, New(7).Save())
		if !ok {
			t.Fatalf("Load(%d) of a new heap", limit)
		}
		p.isTold(t)
		p.makes(t, api.ValInt, 0)
		p.makes(t, api.ValInt, 1)
	}
}

// tried loads bytes with some limits; what comes of it saves to just these bytes.
func tried(t *testing.T, text string, limits ...int) {
	t.Helper()
	for _, limit := range limits {
		if p, ok := load(t, limit, text); ok && p.heap.Save() != text {
			t.Fatalf("Load(%d, %x) saves to %x", limit, text, p.heap.Save())
		}
	}
}

// P10.7: each byte changed, left out and put in, and each beginning, of the bytes of heaps.
func TestLoadChangedBytes(t *testing.T) {
	long := someHeap(t, 20).heap.Save()
	short := newPair(30)
	for kind := api.ValInt; kind <= api.ValRef; kind++ {
		short.makes(t, kind, 2)
	}
	short.puts(t, r(3), 0, s("abc"))
	short.puts(t, r(4), 1, r(4))
	for _, saved := range []string{short.heap.Save(), long, New(1).Save()} {
		for at := range len(saved) {
			tried(t, saved[:at], 20, 300)
			tried(t, saved[:at]+saved[at+1:], 20, 300)
			for one := range 256 {
				few := one < 6 || one == 128 || one == 255
				if few || len(saved) < 200 {
					tried(t, saved[:at]+string([]byte{byte(one)})+saved[at+1:], 20, 300)
				}
				if few {
					tried(t, saved[:at]+string([]byte{byte(one)})+saved[at:], 20, 300)
				}
			}
		}
		for _, more := range []string{"\x00", "H", saved, strings.Repeat("\x00", 9)} {
			tried(t, saved+more, 20, 100000)
			tried(t, more+saved, 20, 100000)
		}
	}
}

// P10.7: all short texts of a few kinds of bytes behind a mark and the upper bytes of a count.
func TestLoadShortTexts(t *testing.T) {
	zeros := strings.Repeat("\x00", 7)
	pieces := []string{"\x00", "\x01", "\x02", "\x03", "\x04", zeros + "\x00", zeros + "\x01", zeros + "\x02", "\xff"}
	longest := 6
	if testing.Short() {
		longest = 5
	}
	texts := []string{"H" + zeros}
	for range longest {
		var longer []string
		for _, text := range texts {
			for _, piece := range pieces {
				tried(t, text+piece, 4)
				longer = append(longer, text+piece)
			}
		}
		texts = longer
	}
}

// P10.7: junk, and counts and lengths of all sizes with too few bytes behind them.
func TestLoadJunk(t *testing.T) {
	random := rand.New(rand.NewSource(12))
	for range 3000 {
		junk := make([]byte, random.Intn(60))
		for n := range junk {
			junk[n] = byte(random.Intn(1 + random.Intn(256)))
		}
		tried(t, string(junk), random.Intn(10))
		tried(t, "H\x00\x00\x00\x00\x00\x00\x00"+string(junk), random.Intn(50), 100000)
	}
	for _, n := range edges() {
		count := string(appendNumber(nil, n, 8))
		tried(t, "H"+count, 0, 10, 100000)
		for _, kind := range []string{"\x00", "\x01", "\x02", "\x03", "\x04", "\x05", "\xff"} {
			tried(t, "H"+count+kind+"\x00\x00\x00\x00\x00\x00\x00\x00", 0, 10, 100000)
			tried(t, "H\x00\x00\x00\x00\x00\x00\x00\x01"+kind+count, 0, 10, 100000)
			tried(t, "H\x00\x00\x00\x00\x00\x00\x00\x01"+kind+count+strings.Repeat("\x00", 100), 0, 10, 100000)
			tried(t, "H\x00\x00\x00\x00\x00\x00\x00\x01"+kind+"\x00\x00\x00\x00\x00\x00\x00\x01"+count, 0, 10, 100000)
		}
	}
}

// P10.7: texts of lengths up to all that two bytes can tell.
func TestLoadTexts(t *testing.T) {
	for _, length := range []int{0, 1, 255, 256, 257, 258, 511, 512, 65535} {
		text := "H\x00\x00\x00\x00\x00\x00\x00\x01\x03\x00\x00\x00\x00\x00\x00\x00\x01" + string([]byte{byte(length >> 8), byte(length)}) + strings.Repeat("u", length)
		tried(t, text, 2)
		if _, errno := Load(2, text); (errno == api.OK) != (length <= 256) {
			t.Errorf("a text of %d bytes: %d", length, errno)
		}
	}
}

// P10.7: references go to the array 0, to the arrays ahead and behind, and to none else.
func TestLoadReferences(t *testing.T) {
	for arrays := 1; arrays <= 3; arrays++ {
		p := newPair(10)
		for range arrays {
			p.makes(t, api.ValRef, 1)
		}
		saved := p.heap.Save()
		for number := range arrays {
			end := 9 + 17*(number+1)
			for _, to := range edges() {
				text := saved[:end-8] + string(appendNumber(nil, to, 8)) + saved[end:]
				tried(t, text, 10)
				if _, errno := Load(10, text); (errno == api.OK) != (to >= 0 && to <= int64(arrays)) {
					t.Errorf("of %d arrays, to %d: %d", arrays, to, errno)
				}
			}
		}
	}
}
