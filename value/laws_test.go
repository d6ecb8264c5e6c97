package value

import (
	"math/rand"
	"testing"

	"retrace/api"
)

// do does an operator that is known not to trap.
func do(t *testing.T, op api.Op, x, y api.Value) api.Value {
	t.Helper()
	v, trap := Binary(op, x, y)
	if trap != api.NoTrap {
		t.Fatalf("%v %d %v: trap %d", x, op, y, trap)
	}
	return v
}

func same(t *testing.T, law string, one, other api.Value, given ...api.Value) {
	t.Helper()
	if one != other {
		t.Fatalf("%s: %v and %v, of %v", law, one, other, given)
	}
}

// threes hands out ints three by three: all of a few, and many of any size.
func threes(do func(x, y, z api.Value)) {
	few := []int64{0, 1, -1, 2, -7, 1 << 32, 1<<63 - 1, -1 << 63, -1<<63 + 1}
	for _, x := range few {
		for _, y := range few {
			for _, z := range few {
				do(i(x), i(y), i(z))
			}
		}
	}
	random := rand.New(rand.NewSource(6))
	for range 5000 {
		do(i(sometimes(random)), i(sometimes(random)), i(sometimes(random)))
	}
}

// P9.7: ints are the ring of the numbers modulo 2^64.
func TestRing(t *testing.T) {
	zero, one := i(0), i(1)
	threes(func(x, y, z api.Value) {
		sum := func(x, y api.Value) api.Value { return do(t, api.OpAdd, x, y) }
		product := func(x, y api.Value) api.Value { return do(t, api.OpMul, x, y) }
		less := func(x api.Value) api.Value {
			v, _ := Unary(api.OpNeg, x)
			return v
		}
		same(t, "sums in any order", sum(x, y), sum(y, x), x, y)
		same(t, "sums in any brackets", sum(sum(x, y), z), sum(x, sum(y, z)), x, y, z)
		same(t, "products in any order", product(x, y), product(y, x), x, y)
		same(t, "products in any brackets", product(product(x, y), z), product(x, product(y, z)), x, y, z)
		same(t, "products over sums", product(x, sum(y, z)), sum(product(x, y), product(x, z)), x, y, z)
		same(t, "differences", do(t, api.OpSub, x, y), sum(x, less(y)), x, y)
		same(t, "nothing added", sum(x, zero), x, x)
		same(t, "once", product(x, one), x, x)
		same(t, "its own less", sum(x, less(x)), zero, x)
	})
}

// P9.7: a is b times the quotient and what is left; that is nearer to 0 than b and has a's sign.
func TestQuotients(t *testing.T) {
	threes(func(x, y, z api.Value) {
		if y == i(0) {
			return
		}
		quotient, rest := do(t, api.OpDiv, x, y), do(t, api.OpMod, x, y)
		same(t, "quotients", do(t, api.OpAdd, do(t, api.OpMul, y, quotient), rest), x, x, y)
		if rest.Int != 0 && (rest.Int < 0) != (x.Int < 0) {
			t.Fatalf("%v left of %v by %v", rest, x, y)
		}
		// Taken as numbers below 0 every int has its like, the least one too.
		if below(rest.Int) <= below(y.Int) {
			t.Fatalf("%v left of %v by %v", rest, x, y)
		}
	})
}

func below(n int64) int64 {
	if n > 0 {
		return -n
	}
	return n
}

// ordered checks what holds of the order of three values of one kind.
func ordered(t *testing.T, x, y, z api.Value) {
	t.Helper()
	is := func(op api.Op, x, y api.Value) bool { return do(t, op, x, y) == b(1) }
	count := 0
	for _, op := range []api.Op{api.OpLt, api.OpEq, api.OpGt} {
		if is(op, x, y) {
			count++
		}
	}
	if count != 1 {
		t.Fatalf("%d of below, equal, above hold of %v, %v", count, x, y)
	}
	if is(api.OpEq, x, y) != (x == y) {
		t.Fatalf("%v, %v: equal: %v", x, y, x != y)
	}
	if is(api.OpLt, x, y) && is(api.OpLt, y, z) && !is(api.OpLt, x, z) {
		t.Fatalf("%v is below %v below %v", x, y, z)
	}
	for _, pair := range [][2]api.Op{{api.OpNe, api.OpEq}, {api.OpGe, api.OpLt}, {api.OpLe, api.OpGt}} {
		if is(pair[0], x, y) == is(pair[1], x, y) {
			t.Fatalf("%d and %d of %v, %v", pair[0], pair[1], x, y)
		}
	}
	if is(api.OpLt, x, y) != is(api.OpGt, y, x) || is(api.OpLe, x, y) != is(api.OpGe, y, x) {
		t.Fatalf("another order of %v, %v from the other side", x, y)
	}
}

// P9.7: ints, and texts, stand all in a row.
func TestOrder(t *testing.T) {
	threes(func(x, y, z api.Value) { ordered(t, x, y, z) })
	few := []string{"", "\x00", "\x00\x00", "a", "a\x00", "aa", "ab", "b", "\x7f", "\x80", "\xff", "\xff\xff"}
	for _, x := range few {
		for _, y := range few {
			for _, z := range few {
				ordered(t, s(x), s(y), s(z))
			}
		}
	}
	random := rand.New(rand.NewSource(7))
	for range 5000 {
		root := someText(random, 200)
		grown := func() api.Value { return s(root[:random.Intn(len(root)+1)] + someText(random, 3)) }
		ordered(t, grown(), grown(), grown())
	}
}

// P9.7: bools and references are equal or not, just one of both.
func TestEqualOrNot(t *testing.T) {
	values := []api.Value{b(0), b(1), r(0), r(1), r(2), r(1<<63 - 1)}
	for _, x := range values {
		for _, y := range values {
			if x.Kind != y.Kind {
				continue
			}
			equal, other := do(t, api.OpEq, x, y), do(t, api.OpNe, x, y)
			if equal != asBool(x == y).value || other != asBool(x != y).value {
				t.Errorf("%v, %v: %v, %v", x, y, equal, other)
			}
		}
	}
}

// P9.7: joining in any brackets, and the bytes of what is joined.
func TestJoining(t *testing.T) {
	random := rand.New(rand.NewSource(8))
	for range 3000 {
		x, y, z := s(someText(random, 90)), s(someText(random, 90)), s(someText(random, 90))
		both, behind := binary(api.OpAdd, x, y), binary(api.OpAdd, y, z)
		if both.trap != api.NoTrap || behind.trap != api.NoTrap {
			t.Fatalf("%v, %v", both, behind)
		}
		// Both ways the same, and too long both ways or neither.
		if one, other := binary(api.OpAdd, both.value, z), binary(api.OpAdd, x, behind.value); one != other {
			t.Fatalf("joined in other brackets: %v, %v", one, other)
		}
		first := int64(len(x.Text))
		for n := int64(-1); n <= int64(len(both.value.Text)); n++ {
			want := at(x, i(n))
			if n >= first {
				want = at(y, i(n-first))
			}
			if got := at(both.value, i(n)); got != want {
				t.Fatalf("the byte at %d of %v and %v: %v, want %v", n, x, y, got, want)
			}
		}
	}
}
