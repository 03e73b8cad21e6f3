package bin_test

import (
	"bytes"
	"math"
	"math/big"
	"strings"
	"testing"

	"hornbook/api"
	"hornbook/bin"
)

// numbers are those at which the bytes of a number change their count or their form, and those beside them.
func numbers() []int64 {
	l := []int64{0, 1, -1, 2, -2, 5, 150, 300, -300, 65535, 65536, math.MaxInt64, math.MaxInt64 - 1, math.MinInt64, math.MinInt64 + 1}
	for i := range 63 {
		p := int64(1) << i
		l = append(l, p-1, p, p+1, -p-1, -p, -p+1)
	}
	return l
}

// numberBytes works a number's bytes out anew, from the words of the chapter, with numbers of any size.
func numberBytes(n int64) []byte {
	u := big.NewInt(n)
	u.Mul(u, big.NewInt(2))
	if n < 0 {
		u.Neg(u)
		u.Sub(u, big.NewInt(1))
	}
	var l []byte
	for {
		piece := byte(new(big.Int).And(u, big.NewInt(127)).Int64())
		u.Rsh(u, 7)
		if u.Sign() == 0 {
			return append(l, piece)
		}
		l = append(l, piece|128)
	}
}

// got works out anew what Get answers.
func got(b []byte, at int) (int64, int, api.Errno) {
	if at < 0 || at > len(b) {
		return 0, 0, api.ErrRange
	}
	end := at
	for end < len(b) && b[end] >= 128 {
		end++
	}
	if end == len(b) {
		if end-at >= 10 {
			return 0, 0, api.ErrForm
		}
		return 0, 0, api.ErrShort
	}
	if end-at >= 10 {
		return 0, 0, api.ErrForm
	}
	u := new(big.Int)
	for i := end; i >= at; i-- {
		u.Lsh(u, 7)
		u.Or(u, big.NewInt(int64(b[i]&127)))
	}
	n := new(big.Int).Rsh(u, 1)
	if u.Bit(0) == 1 {
		n.Add(n, big.NewInt(1))
		n.Neg(n)
	}
	if !n.IsInt64() || !bytes.Equal(numberBytes(n.Int64()), b[at:end+1]) {
		return 0, 0, api.ErrForm
	}
	return n.Int64(), end + 1, api.OK
}

func holdGet(t *testing.T, b []byte, at int) {
	t.Helper()
	n, to, e := bin.Get(b, at)
	wantN, wantTo, wantE := got(b, at)
	if n != wantN || to != wantTo || e != wantE {
		t.Errorf("Get(% x, %d) = %d, %d, %d, want %d, %d, %d", b, at, n, to, e, wantN, wantTo, wantE)
	}
}

func holdGetText(t *testing.T, b []byte, at, most int, want string, wantTo int, wantE api.Errno) {
	t.Helper()
	s, to, e := bin.GetText(b, at, most)
	if s != want || to != wantTo || e != wantE {
		t.Errorf("GetText(% x, %d, %d) = %q, %d, %d, want %q, %d, %d", b, at, most, s, to, e, want, wantTo, wantE)
	}
}

// P1.1, and the chapter's example.
func TestPutHasTheBytesThatTheChapterTells(t *testing.T) {
	for n, want := range map[int64]string{
		0: "\x00", -1: "\x01", 1: "\x02", -2: "\x03", 63: "\x7e", -64: "\x7f", 64: "\x80\x01", -65: "\x81\x01",
		300: "\xd8\x04", 8191: "\xfe\x7f", 8192: "\x80\x80\x01",
		math.MaxInt64: "\xfe\xff\xff\xff\xff\xff\xff\xff\xff\x01",
		math.MinInt64: "\xff\xff\xff\xff\xff\xff\xff\xff\xff\x01",
	} {
		if b := bin.Put(nil, n); string(b) != want {
			t.Errorf("Put(none, %d) = % x, want % x", n, b, want)
		}
	}
	for _, n := range numbers() {
		if b := bin.Put([]byte("ab"), n); string(b) != "ab"+string(numberBytes(n)) {
			t.Errorf("Put(ab, %d) = % x, want % x behind ab", n, b, numberBytes(n))
		}
	}
}

// P1.1.
func TestTextIsItsLengthAndItsBytes(t *testing.T) {
	for _, s := range []string{"", "a", "hello", "\x00\xff\x80", "grün", strings.Repeat("x", 63), strings.Repeat("x", 64), strings.Repeat("\x80", 20000)} {
		want := "ab" + string(numberBytes(int64(len(s)))) + s
		if b := bin.Text([]byte("ab"), s); string(b) != want {
			t.Errorf("Text of %d bytes: others", len(s))
		}
		if b := bin.Text(nil, s); string(b) != want[2:] {
			t.Errorf("Text of %d bytes behind none: others", len(s))
		}
	}
}

// P1.1.
func TestAllIsOneNumberBehindTheOther(t *testing.T) {
	if b := bin.All(); len(b) != 0 {
		t.Errorf("All() = % x", b)
	}
	if b := bin.All(300); string(b) != "\xd8\x04" {
		t.Errorf("All(300) = % x", b)
	}
	var want []byte
	for _, n := range numbers() {
		want = append(want, numberBytes(n)...)
	}
	l := numbers()
	if b := bin.All(l...); !bytes.Equal(b, want) {
		t.Errorf("All of many = % x, want % x", b, want)
	}
	for i, n := range numbers() {
		if l[i] != n {
			t.Fatal("All changed what was handed in")
		}
	}
}

// P1.1: new memory; rules 3 to 5 of the document.
func TestAnswersShareNoMemory(t *testing.T) {
	room := append(make([]byte, 0, 64), "ab........"...)
	b := room[:2]
	for name, put := range map[string]func() []byte{
		"Put":         func() []byte { return bin.Put(b, 300) },
		"Text":        func() []byte { return bin.Text(b, "hi") },
		"empty Text":  func() []byte { return bin.Text(b, "") },
		"Put at none": func() []byte { return bin.Put(nil, 300) },
		"All":         func() []byte { return bin.All(1, 300) },
	} {
		first := put()
		kept := string(first)
		second := put()
		for i := range first {
			first[i] = '!'
		}
		_ = append(first, "!!!!"...)
		if string(second) != kept || string(put()) != kept {
			t.Error(name, "shares memory with another answer")
		}
		if string(room) != "ab........" {
			t.Fatal(name, "wrote into what was handed in, or behind it")
		}
	}
	first := bin.Put(b, 5)
	b[0] = 'x'
	if string(first) != "ab\x0a" {
		t.Error("Put kept what was handed in")
	}
}

// P1.1.
func TestNameOfEachByte(t *testing.T) {
	const letters = "ABCDEFGHIJKLMNOPQRSTUVWXYZabcdefghijklmnopqrstuvwxyz_"
	const digits = "0123456789"
	for c := range 256 {
		s := string([]byte{byte(c)})
		if want := strings.Contains(letters, s); bin.Name(s) != want {
			t.Errorf("Name(%q) is not %v", s, want)
		}
		want := strings.Contains(letters+digits, s)
		for _, long := range []string{"a" + s, "Z" + s + "z", "_" + s, strings.Repeat("q", api.MaxName-1) + s} {
			if bin.Name(long) != want {
				t.Errorf("Name(%q) is not %v", long, want)
			}
		}
	}
}

// P1.1.
func TestNameOfEachLength(t *testing.T) {
	for n := range 100 {
		want := n >= 1 && n <= 24
		for _, c := range []string{"a", "Z", "_"} {
			if bin.Name(strings.Repeat(c, n)) != want {
				t.Errorf("Name of %d times %q is not %v", n, c, want)
			}
		}
	}
	for _, s := range []string{"é", "aé", "a b", " a", "a ", "a\x00", "9", "9a", "a-b", "a.b", "A;", "[A", strings.Repeat("a", 1<<20)} {
		if bin.Name(s) {
			t.Errorf("Name(%.30q) is true", s)
		}
	}
	for _, s := range []string{"Main", "_9", "a1_B2", "__", "int", "Object"} {
		if !bin.Name(s) {
			t.Errorf("Name(%q) is false", s)
		}
	}
}

// P1.2.
func TestGetOfPlacesThatThereAreNot(t *testing.T) {
	for _, b := range [][]byte{nil, {}, {2}, {2, 4, 6}, bytes.Repeat([]byte{255}, 20)} {
		for _, at := range []int{-1, -2, math.MinInt, len(b) + 1, len(b) + 2, math.MaxInt} {
			if n, to, e := bin.Get(b, at); n != 0 || to != 0 || e != api.ErrRange {
				t.Errorf("Get(% x, %d) = %d, %d, %d", b, at, n, to, e)
			}
		}
		if n, to, e := bin.Get(b, len(b)); n != 0 || to != 0 || e != api.ErrShort {
			t.Errorf("Get(% x, %d) at the end = %d, %d, %d", b, len(b), n, to, e)
		}
	}
}

// P1.2: bytes that end too early, too many of them, and more than 64 bits.
func TestGetOfBytesThatAreNoNumber(t *testing.T) {
	for i := range 14 {
		for _, c := range []byte{0x80, 0x81, 0xff} {
			ahead := bytes.Repeat([]byte{c}, i)
			want := api.ErrShort
			if i >= 10 {
				want = api.ErrForm
			}
			if n, to, e := bin.Get(ahead, 0); n != 0 || to != 0 || e != want {
				t.Errorf("Get(% x, 0) = %d, %d, %d, want error %d", ahead, n, to, e, want)
			}
			for last := range 128 {
				holdGet(t, append(bytes.Clone(ahead), byte(last)), 0)
			}
		}
	}
	for s, want := range map[string]api.Errno{
		"":                                     api.ErrShort,
		"\x80":                                 api.ErrShort,
		"\x80\x00":                             api.ErrForm,
		"\x81\x00":                             api.ErrForm,
		"\xff\xff\xff\xff\xff\xff\xff\xff\xff": api.ErrShort,
		"\xff\xff\xff\xff\xff\xff\xff\xff\xff\x00":         api.ErrForm,
		"\xff\xff\xff\xff\xff\xff\xff\xff\xff\x01":         api.OK,
		"\x80\x80\x80\x80\x80\x80\x80\x80\x80\x01":         api.OK,
		"\xff\xff\xff\xff\xff\xff\xff\xff\xff\x02":         api.ErrForm,
		"\x80\x80\x80\x80\x80\x80\x80\x80\x80\x40":         api.ErrForm,
		"\x80\x80\x80\x80\x80\x80\x80\x80\x80\x80\x01":     api.ErrForm,
		"\x80\x80\x80\x80\x80\x80\x80\x80\x80\x80\x00":     api.ErrForm,
		"\xff\xff\xff\xff\xff\xff\xff\xff\xff\xff\xff":     api.ErrForm,
		"\xff\xff\xff\xff\xff\xff\xff\xff\xff\xff\xff\xff": api.ErrForm,
	} {
		if _, _, e := bin.Get([]byte(s), 0); e != want {
			t.Errorf("Get(% x, 0): error %d, want %d", s, e, want)
		}
	}
}

// P1.2 and P1.5: of all bytes up to two, of many up to five, at each place.
func TestGetOfAllShortBytes(t *testing.T) {
	for c := range 256 {
		holdGet(t, []byte{byte(c)}, 0)
		for d := range 256 {
			holdGet(t, []byte{byte(c), byte(d)}, 0)
		}
	}
	some := []byte{0, 1, 2, 0x7e, 0x7f, 0x80, 0x81, 0xff}
	var b [5]byte
	for i := range 8 * 8 * 8 * 8 * 8 {
		for k := range b {
			b[k] = some[i>>(3*k)&7]
		}
		for at := range 6 {
			holdGet(t, b[:], at)
		}
	}
}

// P1.3.
func TestGetTextAnswersTheErrorOfItsLength(t *testing.T) {
	for _, b := range [][]byte{nil, {0x80}, {0x80, 0}, bytes.Repeat([]byte{0xff}, 9), bytes.Repeat([]byte{0xff}, 10), bytes.Repeat([]byte{0xff}, 11)} {
		for _, at := range []int{math.MinInt, -1, 0, 1, len(b), len(b) + 1, math.MaxInt} {
			for _, most := range []int{math.MinInt, -1, 0, 5, math.MaxInt} {
				if _, _, e := got(b, at); e != api.OK {
					holdGetText(t, b, at, most, "", 0, e)
				}
			}
		}
	}
}

// P1.3: its sizes, and which error is named first.
func TestGetTextOfSizes(t *testing.T) {
	b := []byte("\x02\x0ahello?")
	holdGetText(t, b, 1, 5, "hello", 7, api.OK)
	holdGetText(t, b, 1, 6, "hello", 7, api.OK)
	holdGetText(t, b, 1, math.MaxInt, "hello", 7, api.OK)
	holdGetText(t, b, 1, 4, "", 0, api.ErrSize)
	holdGetText(t, b, 1, 0, "", 0, api.ErrSize)
	holdGetText(t, b, 1, -1, "", 0, api.ErrSize)
	holdGetText(t, b, 1, math.MinInt, "", 0, api.ErrSize)
	holdGetText(t, b, 0, 1, "\x0a", 2, api.OK)
	for n := 2; n < 7; n++ {
		holdGetText(t, b[:n], 1, 5, "", 0, api.ErrShort)
		holdGetText(t, b[:n], 1, 4, "", 0, api.ErrSize)
	}
	holdGetText(t, b[:7], 1, 5, "hello", 7, api.OK)
	holdGetText(t, []byte{0}, 0, 0, "", 1, api.OK)
	holdGetText(t, []byte{9, 0}, 1, 0, "", 2, api.OK)
	holdGetText(t, []byte{0}, 0, -1, "", 0, api.ErrSize)
}

// P1.3: lengths far from what there is.
func TestGetTextOfLengthsThatCanNotBe(t *testing.T) {
	for _, n := range []int64{-1, -2, -64, math.MinInt64, math.MinInt64 + 1} {
		b := append(bin.Put(nil, n), "hello"...)
		for _, most := range []int{math.MinInt, -5, -1, 0, 9, math.MaxInt} {
			holdGetText(t, b, 0, most, "", 0, api.ErrSize)
		}
	}
	for _, n := range []int64{6, 1 << 31, 1 << 32, 1<<32 + 2, 1 << 62, math.MaxInt64 - 1, math.MaxInt64} {
		b := append(bin.Put(nil, n), "hello"...)
		holdGetText(t, b, 0, math.MaxInt, "", 0, api.ErrShort)
		holdGetText(t, b, 0, int(n), "", 0, api.ErrShort)
		holdGetText(t, b, 0, int(n)-1, "", 0, api.ErrSize)
		holdGetText(t, b, 0, 5, "", 0, api.ErrSize)
	}
}

// P1.3: a text that was got stays, whatever becomes of the bytes.
func TestGetTextKeepsNoBytes(t *testing.T) {
	b := []byte("\x0ahello")
	s, _, _ := bin.GetText(b, 0, 5)
	copy(b, "!!!!!!")
	if s != "hello" {
		t.Errorf("the text became %q", s)
	}
}

// P1.4.
func TestNumbersAreGotAsTheyWerePut(t *testing.T) {
	ahead := []byte{0xff, 0x80, 0x00}
	var all []byte
	for _, n := range numbers() {
		alone := bin.Put(nil, n)
		if m, to, e := bin.Get(alone, 0); m != n || to != len(alone) || e != api.OK {
			t.Errorf("Get of Put(none, %d) = %d, %d, %d", n, m, to, e)
		}
		b := bin.Put(ahead, n)
		to := len(b)
		b = append(b, 0xff, 0x00)
		if m, at, e := bin.Get(b, len(ahead)); m != n || at != to || e != api.OK {
			t.Errorf("Get of Put(.., %d) = %d, %d, %d", n, m, at, e)
		}
		all = bin.Put(all, n)
	}
	if !bytes.Equal(all, bin.All(numbers()...)) {
		t.Error("All is not Put behind Put")
	}
	at := 0
	for _, n := range numbers() {
		m, to, e := bin.Get(all, at)
		if m != n || e != api.OK {
			t.Fatalf("Get(.., %d) = %d, %d, want %d", at, m, e, n)
		}
		at = to
	}
	if at != len(all) {
		t.Errorf("the last one ends at %d of %d", at, len(all))
	}
}

// P1.4.
func TestTextsAreGotAsTheyWerePut(t *testing.T) {
	texts := []string{"hello", "", "\x80\xff\x00", strings.Repeat("x", 64), "", "\xd8\x04", strings.Repeat("y", 9000)}
	var b []byte
	for i, s := range texts {
		b = bin.Text(bin.Put(b, int64(i)-3), s)
	}
	at := 0
	for i, want := range texts {
		n, from, e := bin.Get(b, at)
		if n != int64(i)-3 || e != api.OK {
			t.Fatalf("Get(.., %d) = %d, %d", at, n, e)
		}
		s, to, e := bin.GetText(b, from, len(want))
		if s != want || e != api.OK {
			t.Fatalf("GetText(.., %d, %d): another text, or error %d", from, len(want), e)
		}
		at = to
	}
	if at != len(b) {
		t.Errorf("the last one ends at %d of %d", at, len(b))
	}
}

// P1.5.
func TestWhatIsGotHasJustTheseBytes(t *testing.T) {
	for c := range 1 << 16 {
		for _, d := range []byte{0, 1, 0x7f} {
			b := []byte{byte(c), byte(c >> 8), d}
			n, to, e := bin.Get(b, 0)
			if e == api.OK && !bytes.Equal(bin.Put(nil, n), b[:to]) {
				t.Fatalf("Get(% x, 0) = %d, %d, that has the bytes % x", b, n, to, bin.Put(nil, n))
			}
		}
	}
}

// P1.2, P1.3: what is handed in stays as it was.
func TestGetChangesNoBytes(t *testing.T) {
	b := []byte("\x0ahello\xd8\x04\x80\x00")
	kept := bytes.Clone(b)
	for at := range len(b) + 2 {
		bin.Get(b, at)
		bin.GetText(b, at, 5)
	}
	if !bytes.Equal(b, kept) {
		t.Errorf("the bytes became % x", b)
	}
}

// P1.2, P1.3: no bytes, places and sizes make it panic.
func FuzzGet(f *testing.F) {
	f.Add([]byte("\x0ahello"), 0, 5)
	f.Add([]byte("\x80\x00"), 1, -1)
	f.Fuzz(func(t *testing.T, b []byte, at, most int) {
		holdGet(t, b, at)
		s, to, e := bin.GetText(b, at, most)
		if e == api.OK && !bytes.Equal(bin.Text(nil, s), b[at:to]) {
			t.Errorf("GetText(% x, %d, %d) = %q, %d", b, at, most, s, to)
		}
	})
}
