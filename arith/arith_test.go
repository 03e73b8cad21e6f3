package arith_test

import (
	"math"
	"math/big"
	"math/rand/v2"
	"strconv"
	"strings"
	"testing"

	"hornbook/api"
	"hornbook/arith"
)

const (
	least    = math.MinInt64
	greatest = math.MaxInt64
)

// edges are numbers at which something ends.
func edges() []int64 {
	l := []int64{0, 1, -1, 2, -2, 3, -3, 7, -7, 9, 10, -10, 11, 99, 100, 101, least, least + 1, least + 2, greatest, greatest - 1, greatest - 2}
	for _, at := range []int{31, 32, 33, 61, 62} {
		n := int64(1) << at
		l = append(l, n, n-1, n+1, -n, -n-1, 1-n)
	}
	return l
}

// anyOf answers a number that is an edge, small, or any.
func anyOf(pick *rand.Rand) int64 {
	switch l := edges(); pick.IntN(3) {
	case 0:
		return l[pick.IntN(len(l))]
	case 1:
		return int64(pick.IntN(41) - 20)
	}
	return int64(pick.Uint64()) >> pick.IntN(64)
}

// fold answers a number modulo 2^64, with a sign.
func fold(x *big.Int) int64 {
	all := new(big.Int).Lsh(big.NewInt(1), 64)
	x = new(big.Int).Mod(x, all)
	if x.Bit(63) == 1 {
		x.Sub(x, all)
	}
	return x.Int64()
}

// does works out anew what Do answers, by numbers that are as great as they get.
func does(op int, a, b int64) (int64, api.Errno) {
	x, y, z := big.NewInt(a), big.NewInt(b), new(big.Int)
	truths := map[bool]int64{true: 1}
	switch op {
	case api.Add:
		return fold(z.Add(x, y)), api.OK
	case api.Sub:
		return fold(z.Sub(x, y)), api.OK
	case api.Mul:
		return fold(z.Mul(x, y)), api.OK
	case api.Div, api.Rem:
		if y.Sign() == 0 {
			return 0, api.ErrThrow
		}
		if op == api.Div {
			return fold(z.Quo(x, y)), api.OK
		}
		return fold(z.Rem(x, y)), api.OK
	case api.Neg:
		return fold(z.Neg(x)), api.OK
	case api.Not:
		return truths[x.Sign() == 0], api.OK
	case api.Lt:
		return truths[x.Cmp(y) < 0], api.OK
	case api.Le:
		return truths[x.Cmp(y) <= 0], api.OK
	case api.EqI, api.EqB, api.EqR:
		return truths[x.Cmp(y) == 0], api.OK
	}
	return 0, api.ErrCode
}

// holdDo holds what P14.1 says of an instruction and two numbers.
func holdDo(t *testing.T, op int, a, b int64) {
	t.Helper()
	want, wantE := does(op, a, b)
	if v, e := arith.Do(op, a, b); v != want || e != wantE {
		t.Errorf("Do(%d, %d, %d) = %d, error %d, want %d, error %d", op, a, b, v, e, want, wantE)
	}
}

// holdShare holds P14.3: a is b times a by b, and what is left, which is nearer to 0 than b, and has a's sign.
func holdShare(t *testing.T, a, b int64) {
	t.Helper()
	by, e := arith.Do(api.Div, a, b)
	left, f := arith.Do(api.Rem, a, b)
	if b == 0 {
		if by != 0 || left != 0 || e != api.ErrThrow || f != api.ErrThrow {
			t.Errorf("%d by 0 = %d, error %d, and %d, error %d", a, by, e, left, f)
		}
		return
	}
	times, _ := arith.Do(api.Mul, b, by)
	sum, _ := arith.Do(api.Add, times, left)
	if sum != a || e != api.OK || f != api.OK {
		t.Errorf("%d by %d = %d, error %d, and %d is left, error %d", a, b, by, e, left, f)
	}
	if left != 0 && (left < 0) != (a < 0) || new(big.Int).Abs(big.NewInt(left)).Cmp(new(big.Int).Abs(big.NewInt(b))) >= 0 {
		t.Errorf("of %d by %d %d is left", a, b, left)
	}
}

// P14.1: the examples of the chapter, and numbers by hand at the edges.
func TestDo(t *testing.T) {
	for _, x := range []struct {
		op   int
		a, b int64
		want int64
		e    api.Errno
	}{
		{api.Mul, 1 << 62, 4, 0, api.OK},
		{api.Rem, -7, 2, -1, api.OK},
		{api.Add, 2, 3, 5, api.OK},
		{api.Add, greatest, 1, least, api.OK},
		{api.Add, least, -1, greatest, api.OK},
		{api.Add, least, least, 0, api.OK},
		{api.Sub, 2, 3, -1, api.OK},
		{api.Sub, least, 1, greatest, api.OK},
		{api.Sub, 0, least, least, api.OK},
		{api.Mul, -3, 5, -15, api.OK},
		{api.Mul, greatest, greatest, 1, api.OK},
		{api.Mul, greatest, 2, -2, api.OK},
		{api.Mul, least, -1, least, api.OK},
		{api.Mul, least, 2, 0, api.OK},
		{api.Div, 7, 2, 3, api.OK},
		{api.Div, -7, 2, -3, api.OK},
		{api.Div, 7, -2, -3, api.OK},
		{api.Div, -7, -2, 3, api.OK},
		{api.Div, 1, 2, 0, api.OK},
		{api.Div, -1, 2, 0, api.OK},
		{api.Div, least, -1, least, api.OK},
		{api.Div, least, 1, least, api.OK},
		{api.Div, least, least, 1, api.OK},
		{api.Div, greatest, least, 0, api.OK},
		{api.Div, 0, 5, 0, api.OK},
		{api.Div, 0, 0, 0, api.ErrThrow},
		{api.Div, least, 0, 0, api.ErrThrow},
		{api.Rem, 7, 2, 1, api.OK},
		{api.Rem, 7, -2, 1, api.OK},
		{api.Rem, -7, -2, -1, api.OK},
		{api.Rem, -8, 2, 0, api.OK},
		{api.Rem, least, -1, 0, api.OK},
		{api.Rem, least, greatest, -1, api.OK},
		{api.Rem, greatest, least, greatest, api.OK},
		{api.Rem, 0, 0, 0, api.ErrThrow},
		{api.Rem, 5, 0, 0, api.ErrThrow},
		{api.Neg, 5, 9, -5, api.OK},
		{api.Neg, -5, 0, 5, api.OK},
		{api.Neg, 0, 1, 0, api.OK},
		{api.Neg, least, 0, least, api.OK},
		{api.Not, 0, 1, 1, api.OK},
		{api.Not, 0, 0, 1, api.OK},
		{api.Not, 1, 0, 0, api.OK},
		{api.Not, 2, 0, 0, api.OK},
		{api.Not, -1, 1, 0, api.OK},
		{api.Not, least, 0, 0, api.OK},
		{api.Lt, 1, 2, 1, api.OK},
		{api.Lt, 2, 2, 0, api.OK},
		{api.Lt, 3, 2, 0, api.OK},
		{api.Lt, least, greatest, 1, api.OK},
		{api.Lt, greatest, least, 0, api.OK},
		{api.Le, 1, 2, 1, api.OK},
		{api.Le, 2, 2, 1, api.OK},
		{api.Le, 3, 2, 0, api.OK},
		{api.Le, greatest, least, 0, api.OK},
		{api.EqI, 2, 2, 1, api.OK},
		{api.EqI, 2, 3, 0, api.OK},
		{api.EqI, least, greatest, 0, api.OK},
		{api.EqB, 0, 0, 1, api.OK},
		{api.EqB, 1, 0, 0, api.OK},
		{api.EqB, 1, 2, 0, api.OK},
		{api.EqR, 17, 17, 1, api.OK},
		{api.EqR, 17, 0, 0, api.OK},
		{api.EqR, 1 << 32, 0, 0, api.OK},
	} {
		if v, e := arith.Do(x.op, x.a, x.b); v != x.want || e != x.e {
			t.Errorf("Do(%d, %d, %d) = %d, error %d, want %d, error %d", x.op, x.a, x.b, v, e, x.want, x.e)
		}
		holdDo(t, x.op, x.a, x.b)
	}
}

// P14.1, P14.3: of all instructions, and of what is none, with numbers at which something ends.
func TestDoAtTheEdges(t *testing.T) {
	for _, a := range edges() {
		for _, b := range edges() {
			for op := -3; op < api.Ops+3; op++ {
				holdDo(t, op, a, b)
			}
			for _, op := range []int{math.MinInt, math.MaxInt, api.Add + 1<<32, -api.Add} {
				holdDo(t, op, a, b)
			}
			holdShare(t, a, b)
		}
	}
}

// P14.1: only these instructions make something of numbers, whatever these are.
func TestDoOfAllOthers(t *testing.T) {
	takes := []int{api.Add, api.Sub, api.Mul, api.Div, api.Rem, api.Neg, api.Not, api.Lt, api.Le, api.EqI, api.EqB, api.EqR}
	right := 0
	for op := -100; op < 200; op++ {
		v, e := arith.Do(op, 5, 0)
		if e != api.ErrCode {
			right++
		} else if v != 0 {
			t.Errorf("Do(%d, 5, 0) = %d beside an error", op, v)
		}
	}
	for _, op := range takes {
		if _, e := arith.Do(op, 5, 3); e != api.OK {
			t.Errorf("Do(%d, 5, 3): error %d", op, e)
		}
	}
	if right != len(takes) {
		t.Errorf("%d instructions make something of numbers, want %d", right, len(takes))
	}
}

// P14.1, P14.3: of many numbers.
func TestDoOfMany(t *testing.T) {
	pick := rand.New(rand.NewPCG(7, 1))
	for range 30000 {
		a, b := anyOf(pick), anyOf(pick)
		holdDo(t, api.Add+pick.IntN(api.EqR-api.Add+1), a, b)
		holdShare(t, a, b)
	}
}

// P14.2: numbers as texts.
func TestText(t *testing.T) {
	for n, want := range map[int64]string{
		0: "0", 1: "1", -1: "-1", 9: "9", 10: "10", -10: "-10", 42: "42", 100: "100", -1000: "-1000", 1020304050: "1020304050",
		1 << 32: "4294967296", greatest: "9223372036854775807", least: "-9223372036854775808", least + 1: "-9223372036854775807",
		1000000000000000000: "1000000000000000000", -1000000000000000000: "-1000000000000000000", 999999999999999999: "999999999999999999",
	} {
		if got := arith.Text(n); got != want {
			t.Errorf("Text(%d) = %q", n, got)
		}
		if got, e := arith.Read(want); got != n || e != api.OK {
			t.Errorf("Read(%q) = %d, error %d", want, got, e)
		}
	}
}

// holdText holds P14.2 and P14.4: a number's text, and that it is read again.
func holdText(t *testing.T, n int64) {
	t.Helper()
	s := arith.Text(n)
	if s != strconv.FormatInt(n, 10) {
		t.Errorf("Text(%d) = %q", n, s)
	}
	if got, e := arith.Read(s); got != n || e != api.OK {
		t.Errorf("Read(Text(%d)) = %d, error %d", n, got, e)
	}
}

// P14.2, P14.4: of many numbers, among them those beside all powers of 2 and 10.
func TestTextOfMany(t *testing.T) {
	for _, base := range []int64{2, 10} {
		for n := int64(1); n > 0 && n <= greatest/base; n *= base {
			for _, x := range []int64{n - 1, n, n + 1, n*base - 1, n * base} {
				holdText(t, x)
				holdText(t, -x)
			}
		}
	}
	for n := range int64(3000) {
		holdText(t, n-1500)
		holdText(t, least+n)
		holdText(t, greatest-n)
	}
	pick := rand.New(rand.NewPCG(7, 2))
	for range 3000 {
		holdText(t, anyOf(pick))
	}
}

// holdRead holds P14.2: what is not just a number's text is none.
func holdRead(t *testing.T, s string) {
	t.Helper()
	want, err := strconv.ParseInt(s, 10, 64)
	wantE := api.OK
	if err != nil || strconv.FormatInt(want, 10) != s {
		want, wantE = 0, api.ErrForm
	}
	if n, e := arith.Read(s); n != want || e != wantE {
		t.Errorf("Read(%q) = %d, error %d, want %d, error %d", s, n, e, want, wantE)
	}
}

// P14.2: texts that are no number's.
func TestReadRefused(t *testing.T) {
	for _, s := range []string{
		"", "-", "--", "--1", "+", "+1", "+0", "-0", "00", "01", "-01", "-00", "000", "0-", "1-", "1-1", "-1-",
		" ", " 1", "1 ", "1\n", "1\x00", "\x001", "1 2", "1a", "a", "a1", "0x1", "1e3", "1.0", "1,000", "1_000", "~", "true",
		"9223372036854775808", "9223372036854775817", "-9223372036854775809", "-9223372036854775818", "9999999999999999999", "-9999999999999999999",
		"18446744073709551616", "18446744073709551617", "-18446744073709551616", "-18446744073709551617", "18446744073709551615", "99999999999999999999",
		"340282366920938463463374607431768211457", "00000000000000000000000000000001", "-00000000000000000000000000000001",
		"\xff", "1\xff", "٣", "−1", "²", "１", "/", ":", "1/", "1:", "0:", "(", "-(", "-/", "\x80\x80",
		strings.Repeat("1", 100000), strings.Repeat("0", 100000), "-" + strings.Repeat("9", 100000), strings.Repeat("-", 100000), "1" + strings.Repeat("0", 64),
	} {
		if n, e := arith.Read(s); n != 0 || e != api.ErrForm {
			t.Errorf("Read(%.40q) = %d, error %d", s, n, e)
		}
	}
}

// P14.2: texts of few bytes, of all kinds, and numbers' texts of which some byte is another one.
func TestReadOfMany(t *testing.T) {
	for a := range 256 {
		holdRead(t, string([]byte{byte(a)}))
		for b := range 256 {
			holdRead(t, string([]byte{byte(a), byte(b)}))
			holdRead(t, string([]byte{'-', byte(a), byte(b)}))
			holdRead(t, string([]byte{'1', byte(a), byte(b)}))
		}
	}
	pick := rand.New(rand.NewPCG(7, 3))
	for range 20000 {
		b := []byte(strconv.FormatInt(anyOf(pick), 10))
		switch at := pick.IntN(len(b)); pick.IntN(4) {
		case 0:
			b[at] = byte(pick.IntN(256))
		case 1:
			b = append(b[:at], b[at+1:]...)
		case 2:
			b = append(b[:at], append([]byte{"0123456789-+ "[pick.IntN(13)]}, b[at:]...)...)
		case 3:
			b[at] = byte('0' + pick.IntN(10))
		}
		holdRead(t, string(b))
	}
}

// P14.2: a truth's word.
func TestShow(t *testing.T) {
	if got := arith.Show(1); got != "true" {
		t.Errorf("Show(1) = %q", got)
	}
	for _, v := range append(edges(), 1+1<<32, 257, 65537) {
		if got := arith.Show(v); v != 1 && got != "false" {
			t.Errorf("Show(%d) = %q", v, got)
		}
	}
	for _, x := range []struct {
		op   int
		want string
	}{{api.Lt, "true"}, {api.EqI, "false"}, {api.Le, "true"}} {
		v, _ := arith.Do(x.op, -1, 1)
		if got := arith.Show(v); got != x.want {
			t.Errorf("Show of Do(%d, -1, 1) = %q", x.op, got)
		}
	}
}

// P14.1, P14.3: whatever is handed in, nothing panics.
func FuzzDo(f *testing.F) {
	f.Add(api.Div, int64(least), int64(-1))
	f.Add(api.Rem, int64(least), int64(-1))
	f.Add(api.Mul, int64(1)<<62, int64(4))
	f.Add(-1, int64(0), int64(0))
	f.Fuzz(func(t *testing.T, op int, a, b int64) {
		holdDo(t, op, a, b)
		holdShare(t, a, b)
	})
}

// P14.2, P14.4: of any text, and any number.
func FuzzRead(f *testing.F) {
	f.Add("-0", int64(0))
	f.Add("9223372036854775808", int64(least))
	f.Add("-9223372036854775808", int64(greatest))
	f.Add("18446744073709551617", int64(-1))
	f.Fuzz(func(t *testing.T, s string, n int64) {
		holdRead(t, s)
		holdText(t, n)
	})
}
