package pack_test

import (
	"bytes"
	"encoding/binary"
	"encoding/hex"
	"fmt"
	"math"
	"math/rand"
	"slices"
	"strings"
	"testing"

	"escapement/api"
	"escapement/pack"
)

const greatest = api.MaxNumber

// noNumbers are ints that have no bytes.
var noNumbers = []int{-1, -2, -254, -255, -256, -greatest, math.MinInt, math.MinInt + 1, greatest + 1, greatest + 2, greatest + 254, greatest + 255, 1 << 54, math.MaxInt}

// numbers are some at the edges, and between them.
var numbers = []int{0, 1, 2, 127, 128, 253, 254, 255, 256, 257, 509, 510, 511, 65535, 65536, 65790, 1 << 31, 1<<32 + 253, 1<<32 + 254, 1 << 40, greatest - 255, greatest - 254, greatest - 253, greatest - 1, greatest}

// model is the bytes of numbers, as the chapter says them.
func model(l ...int) []byte {
	var b []byte
	for _, n := range l {
		if n < 255 {
			b = append(b, byte(n))
			continue
		}
		b = binary.BigEndian.AppendUint64(append(b, 255), uint64(n-254))
	}
	return b
}

// modelText is the bytes of a text.
func modelText(s string) []byte {
	return append(model(len(s)), s...)
}

// raw is a byte 255, and behind it the eight bytes of any number.
func raw(above uint64) []byte {
	return binary.BigEndian.AppendUint64([]byte{255}, above)
}

// unhex is bytes that are written as digits, with blanks between.
func unhex(t *testing.T, s string) []byte {
	t.Helper()
	b, err := hex.DecodeString(strings.ReplaceAll(s, " ", ""))
	if err != nil {
		t.Fatal(err)
	}
	return b
}

// same fails the test unless what a call answered is what is wanted.
func same[T comparable](t *testing.T, call string, got, want T) {
	t.Helper()
	if got != want {
		t.Errorf("%s: %v, want %v", call, got, want)
	}
}

// sameBytes fails the test unless Put, or PutText, answered these bytes, and this error.
func sameBytes(t *testing.T, call string, got []byte, e api.Errno, want []byte, wantE api.Errno) {
	t.Helper()
	if e != wantE || !bytes.Equal(got, want) {
		t.Errorf("%s: % X, error %d; want % X, error %d", call, cut(got), e, cut(want), wantE)
	}
	if wantE != api.OK && len(got) != 0 {
		t.Errorf("%s: beside an error %d bytes", call, len(got))
	}
}

// cut is bytes, not too many to be told.
func cut(b []byte) []byte {
	return b[:min(len(b), 40)]
}

// put is the bytes of numbers, none of which may be answered an error.
func put(t *testing.T, l ...int) []byte {
	t.Helper()
	b, e := pack.Put(nil, l...)
	same(t, fmt.Sprintf("Put(none, %v)", l), e, api.OK)
	return b
}

// sameState fails the test unless a reader tells these, twice: asking changes nothing.
func sameState(t *testing.T, when string, r *pack.Reader, left int, e, end api.Errno) {
	t.Helper()
	for range 2 {
		same(t, when+": Left()", r.Left(), left)
		same(t, when+": Err()", r.Err(), e)
		same(t, when+": End()", r.End(), end)
	}
}

// sameGood is sameState without an error.
func sameGood(t *testing.T, when string, r *pack.Reader, left int) {
	t.Helper()
	end := api.OK
	if left > 0 {
		end = api.ErrSyntax
	}
	sameState(t, when, r, left, api.OK, end)
}

// sameError is sameState with an error, which stays whatever is read then.
func sameError(t *testing.T, when string, r *pack.Reader, e api.Errno) {
	t.Helper()
	sameState(t, when, r, 0, e, e)
	for _, most := range []int{greatest, 0, -1, math.MaxInt, math.MinInt, 300, 3} {
		same(t, fmt.Sprintf("%s, error %d: Num(%d)", when, e, most), r.Num(most), 0)
		sameState(t, when+", behind Num", r, 0, e, e)
		same(t, fmt.Sprintf("%s, error %d: Text(%d)", when, e, most), r.Text(most), "")
		sameState(t, when+", behind Text", r, 0, e, e)
	}
}

// The chapter's examples.
func TestExamples(t *testing.T) {
	b, e := pack.Put(nil, 3, 254, 255, 256)
	sameBytes(t, "Put(none, 3, 254, 255, 256)", b, e, unhex(t, "03 FE FF 00 00 00 00 00 00 00 01 FF 00 00 00 00 00 00 00 02"), api.OK)
	b, e = pack.PutText(nil, "ab")
	sameBytes(t, `PutText(none, "ab")`, b, e, unhex(t, "02 61 62"), api.OK)
	b, e = pack.Put(nil, -1)
	sameBytes(t, "Put(none, -1)", b, e, nil, api.ErrArg)

	r := pack.Read(unhex(t, "02 61 62 07"))
	same(t, "Text(9)", r.Text(9), "ab")
	same(t, "Num(6)", r.Num(6), 0)
	same(t, "Err()", r.Err(), api.ErrLimit)
	same(t, "Num(9)", r.Num(9), 0)
}

// P4.1: the bytes of numbers at the edges, written out.
func TestPutBytes(t *testing.T) {
	for _, row := range []struct {
		n    int
		want string
	}{
		{0, "00"},
		{1, "01"},
		{128, "80"},
		{253, "FD"},
		{254, "FE"},
		{255, "FF 00 00 00 00 00 00 00 01"},
		{256, "FF 00 00 00 00 00 00 00 02"},
		{509, "FF 00 00 00 00 00 00 00 FF"},
		{510, "FF 00 00 00 00 00 00 01 00"},
		{0x010203040506 + 254, "FF 00 00 01 02 03 04 05 06"},
		{1 << 40, "FF 00 00 00 FF FF FF FF 02"},
		{greatest - 1, "FF 00 1F FF FF FF FF FF 00"},
		{greatest, "FF 00 1F FF FF FF FF FF 01"},
	} {
		b, e := pack.Put(nil, row.n)
		sameBytes(t, fmt.Sprintf("Put(none, %d)", row.n), b, e, unhex(t, row.want), api.OK)
	}
}

// P4.1: numbers, none, one or more, stand behind what is there, one behind the other.
func TestPutBehind(t *testing.T) {
	for _, ahead := range [][]byte{nil, {}, {0}, {255}, {255, 0, 0}, bytes.Repeat([]byte{7}, 100)} {
		for _, l := range [][]int{nil, {}, {0}, {255}, {1, 2, 3}, {greatest, 0, 254, 255, 254, greatest}, numbers} {
			b, e := pack.Put(ahead, l...)
			sameBytes(t, fmt.Sprintf("Put(% X, %v)", cut(ahead), l), b, e, slices.Concat(ahead, model(l...)), api.OK)
		}
	}
}

// P4.1: what is no number is told, wherever it stands, and nothing beside it.
func TestPutErrors(t *testing.T) {
	for _, bad := range noNumbers {
		for _, ahead := range [][]byte{nil, {1, 2, 3}} {
			for _, l := range [][]int{{bad}, {bad, 1}, {1, bad}, {1, 255, bad, 2, 3}, {bad, bad}, append(slices.Clone(numbers), bad)} {
				b, e := pack.Put(ahead, l...)
				sameBytes(t, fmt.Sprintf("Put(% X, %v)", ahead, l), b, e, nil, api.ErrArg)
			}
		}
	}
}

// texts are some of each length that is an edge, and of bytes that are no letters.
func texts() []string {
	l := []string{"", "a", "ab", "\x00", "\xff", "\xff\x00", "\xc3\x28", "äöü", "line\nline"}
	for _, size := range []int{127, 253, 254, 255, 256, 257, 4096, api.MaxText - 1, api.MaxText} {
		b := make([]byte, size)
		for i := range b {
			b[i] = byte(i*7 + i/256)
		}
		l = append(l, string(b))
	}
	return l
}

// P4.1: a text's bytes are those of how many it has, and they.
func TestPutText(t *testing.T) {
	for _, ahead := range [][]byte{nil, {}, {9}, {255, 0}} {
		for _, s := range texts() {
			b, e := pack.PutText(ahead, s)
			sameBytes(t, fmt.Sprintf("PutText(% X, a text of %d)", ahead, len(s)), b, e, slices.Concat(ahead, modelText(s)), api.OK)
		}
	}
	b, e := pack.PutText(nil, strings.Repeat("x", 255))
	sameBytes(t, "PutText(none, 255 bytes)", b, e, append(unhex(t, "FF 00 00 00 00 00 00 00 01"), strings.Repeat("x", 255)...), api.OK)
}

// P4.1: a text of more than MaxText bytes.
func TestPutTextErrors(t *testing.T) {
	for _, ahead := range [][]byte{nil, {1, 2, 3}} {
		for _, more := range []int{1, 2, api.MaxText, 1 << 20} {
			b, e := pack.PutText(ahead, strings.Repeat("x", api.MaxText+more))
			sameBytes(t, fmt.Sprintf("PutText, %d bytes more", more), b, e, nil, api.ErrLimit)
		}
	}
}

// P4.2: a number, at most, just at most, above it.
func TestNumMost(t *testing.T) {
	for _, n := range numbers {
		for _, most := range []int{n, n + 1, n + 255, greatest, greatest + 1, math.MaxInt, n - 1, n - 254, 0, -1, math.MinInt} {
			call := fmt.Sprintf("of %d: Num(%d)", n, most)
			r := pack.Read(append(model(n), 4, 5))
			if n > most {
				same(t, call, r.Num(most), 0)
				sameError(t, call, r, api.ErrLimit)
				continue
			}
			same(t, call, r.Num(most), n)
			sameGood(t, call, r, 2)
			same(t, call+", then Num(5)", r.Num(5), 4)
			same(t, call+", then Num(5) again", r.Num(5), 5)
			sameGood(t, call, r, 0)
		}
	}
}

// P4.2: numbers below 255 and above, one behind the other.
func TestNumRow(t *testing.T) {
	b := put(t, numbers...)
	r := pack.Read(b)
	left := len(b)
	for _, n := range numbers {
		same(t, "Num", r.Num(n), n)
		left -= len(model(n))
		sameGood(t, fmt.Sprintf("behind %d", n), r, left)
	}
	same(t, "Num at the end", r.Num(greatest), 0)
	sameError(t, "at the end", r, api.ErrTrunc)
}

// P4.2: bytes that are no number's: which error is told, whatever may be most, and whatever stands behind them.
func TestNumErrors(t *testing.T) {
	rows := []struct {
		what string
		b    []byte
		e    api.Errno
	}{
		{"none", nil, api.ErrTrunc},
		{"empty", []byte{}, api.ErrTrunc},
		{"255 alone", []byte{255}, api.ErrTrunc},
		{"255 and a 0", []byte{255, 0}, api.ErrTrunc},
		{"255 and seven 0", raw(0)[:8], api.ErrTrunc},
		{"255 and seven 255", raw(math.MaxUint64)[:8], api.ErrTrunc},
		{"255 and 0", raw(0), api.ErrSyntax},
		{"one above MaxNumber", raw(greatest - 254 + 1), api.ErrSyntax},
		{"two above MaxNumber", raw(greatest - 254 + 2), api.ErrSyntax},
		{"MaxNumber above 254", raw(greatest), api.ErrSyntax},
		{"2^53", raw(1 << 53), api.ErrSyntax},
		{"2^62", raw(1 << 62), api.ErrSyntax},
		{"MaxInt", raw(math.MaxInt64), api.ErrSyntax},
		{"MaxInt less 254", raw(math.MaxInt64 - 254), api.ErrSyntax},
		{"MinInt", raw(1 << 63), api.ErrSyntax},
		{"what wraps round to 0", raw(math.MaxUint64 - 253), api.ErrSyntax},
		{"what wraps round to 253", raw(math.MaxUint64), api.ErrSyntax},
	}
	for _, row := range rows {
		behinds := [][]byte{nil, {0}, {1, 2, 3}}
		if row.e == api.ErrTrunc {
			behinds = behinds[:1]
		}
		for _, behind := range behinds {
			for _, most := range []int{greatest, math.MaxInt, 254, 0, -1, math.MinInt} {
				call := fmt.Sprintf("%s, % X behind: Num(%d)", row.what, behind, most)
				r := pack.Read(slices.Concat(row.b, behind))
				same(t, call, r.Num(most), 0)
				sameError(t, call, r, row.e)
				call = strings.Replace(call, "Num", "Text", 1)
				r = pack.Read(slices.Concat(row.b, behind))
				same(t, call, r.Text(most), "")
				sameError(t, call, r, row.e)
			}
		}
	}
}

// P4.2: each of the eight bytes counts for what it should.
func TestNumEachByte(t *testing.T) {
	for shift := 0; shift < 64; shift += 8 {
		for x := range uint64(256) {
			above := x << shift
			r := pack.Read(raw(above))
			call := fmt.Sprintf("Num of 255, and %d", above)
			if above == 0 || above > greatest-254 {
				same(t, call, r.Num(math.MaxInt), 0)
				sameError(t, call, r, api.ErrSyntax)
				continue
			}
			same(t, call, r.Num(math.MaxInt), int(above)+254)
			sameGood(t, call, r, 0)
		}
	}
}

// P4.2: a text, of most bytes, of one more; it goes, and what is behind it is left.
func TestText(t *testing.T) {
	for _, s := range texts() {
		for _, most := range []int{len(s), len(s) + 1, greatest, math.MaxInt, len(s) - 1, -1, math.MinInt} {
			call := fmt.Sprintf("of %d bytes: Text(%d)", len(s), most)
			r := pack.Read(append(modelText(s), 1, 77))
			if len(s) > most {
				same(t, call, r.Text(most), "")
				sameError(t, call, r, api.ErrLimit)
				continue
			}
			same(t, call, r.Text(most), s)
			sameGood(t, call, r, 2)
			same(t, call+", then Text(1)", r.Text(1), "M")
			sameGood(t, call, r, 0)
		}
	}
}

// P4.2: a text of which there are fewer bytes than its number says, however great that is; a limit is told ahead of that.
func TestTextTooShort(t *testing.T) {
	for _, n := range []int{1, 2, 3, 254, 255, 256, api.MaxText, api.MaxText + 1, 1 << 32, 1<<32 + 1, greatest} {
		for _, have := range []int{0, 1, min(n-1, 1000)} {
			if have >= n {
				continue
			}
			b := append(model(n), make([]byte, have)...)
			call := fmt.Sprintf("%d of %d bytes: Text", have, n)
			for _, most := range []int{n, greatest, math.MaxInt} {
				r := pack.Read(b)
				same(t, call, r.Text(most), "")
				sameError(t, call, r, api.ErrTrunc)
			}
			r := pack.Read(b)
			same(t, call, r.Text(n-1), "")
			sameError(t, call+" of less", r, api.ErrLimit)
		}
	}
}

// P4.2: what is above MaxText, but not above most, is read, as the words say.
func TestTextAboveMaxText(t *testing.T) {
	s := strings.Repeat("y", api.MaxText+1)
	r := pack.Read(modelText(s))
	same(t, "Text", r.Text(api.MaxText+1), s)
	sameGood(t, "behind it", r, 0)
}

// P4.2: the first error stays, with readings behind it that would answer another one, or none.
func TestErrorStays(t *testing.T) {
	behinds := [][]byte{nil, {3}, {2, 97, 98}, raw(0), raw(math.MaxUint64), {255}, modelText("long enough"), model(300)}
	firsts := []struct {
		b    []byte
		most int
		e    api.Errno
	}{{model(7), 6, api.ErrLimit}, {model(255), 254, api.ErrLimit}, {raw(0), 9, api.ErrSyntax}, {raw(1 << 60), greatest, api.ErrSyntax}}
	for _, first := range firsts {
		for _, behind := range behinds {
			for _, ahead := range [][]int{nil, {1}, {255, 2}} {
				r := pack.Read(slices.Concat(model(ahead...), first.b, behind))
				for _, n := range ahead {
					same(t, "Num ahead of an error", r.Num(greatest), n)
				}
				same(t, "Num with an error", r.Num(first.most), 0)
				sameError(t, fmt.Sprintf("% X, % X behind", first.b, behind), r, first.e)
			}
		}
	}
	r := pack.Read([]byte{5, 97})
	same(t, "a text too short", r.Text(5), "")
	sameError(t, "a text too short", r, api.ErrTrunc)
}

// P4.3: bytes that are left are told at the end, and do no harm: what is left can still be read.
func TestEnd(t *testing.T) {
	r := pack.Read([]byte{1, 2, 1, 97})
	sameGood(t, "at the beginning", r, 4)
	same(t, "Num", r.Num(9), 1)
	sameGood(t, "behind one", r, 3)
	same(t, "Num", r.Num(9), 2)
	sameGood(t, "behind two", r, 2)
	same(t, "Text", r.Text(9), "a")
	sameGood(t, "behind all", r, 0)
	sameGood(t, "of no bytes", pack.Read(nil), 0)
	sameGood(t, "of no bytes, not nil", pack.Read([]byte{}), 0)
}

// P4.3: of a reader that is nil all answers are nothing, and it stays so.
func TestNil(t *testing.T) {
	var r *pack.Reader
	for range 2 {
		for _, most := range []int{0, 9, greatest, math.MaxInt, -1, math.MinInt} {
			same(t, "nil: Num", r.Num(most), 0)
			same(t, "nil: Text", r.Text(most), "")
			sameState(t, "nil", r, 0, api.OK, api.OK)
		}
	}
}

// P4.3: a zero reader is one of no bytes.
func TestZero(t *testing.T) {
	for _, most := range []int{0, 9, greatest, -1, math.MinInt} {
		zero := func() map[string]*pack.Reader {
			return map[string]*pack.Reader{"zero": {}, "new": new(pack.Reader), "of none": pack.Read(nil)}
		}
		for name, r := range zero() {
			sameGood(t, name, r, 0)
			same(t, name+": Num", r.Num(most), 0)
			sameError(t, name+", behind Num", r, api.ErrTrunc)
		}
		for name, r := range zero() {
			same(t, name+": Text", r.Text(most), "")
			sameError(t, name+", behind Text", r, api.ErrTrunc)
		}
	}
}

// P4.1 to P4.3: readers of the same bytes are apart.
func TestReadersApart(t *testing.T) {
	b := []byte{1, 2, 3}
	one, other := pack.Read(b), pack.Read(b)
	same(t, "Num", one.Num(9), 1)
	sameGood(t, "the other", other, 3)
	same(t, "Num(1) of 2", one.Num(1), 0)
	sameError(t, "the one", one, api.ErrLimit)
	for n := 1; n <= 3; n++ {
		same(t, "Num of the other", other.Num(9), n)
	}
	sameGood(t, "the other", other, 0)
}

// room is bytes with spare room behind them, all of which is filled, and that as a whole.
func room(b []byte, spare int) (part, whole []byte) {
	whole = append(slices.Clone(b), bytes.Repeat([]byte{0xEE}, spare)...)
	return whole[:len(b)], whole
}

// P4.4: what is put behind bytes is new memory, with or without spare room, of any size; and nothing that is handed in is changed.
func TestPutIsNew(t *testing.T) {
	calls := map[string]func(b []byte, l []int) ([]byte, api.Errno){
		"Put":           func(b []byte, l []int) ([]byte, api.Errno) { return pack.Put(b, l...) },
		"PutText":       func(b []byte, l []int) ([]byte, api.Errno) { return pack.PutText(b, strings.Repeat("t", len(l))) },
		"Put, an error": func(b []byte, l []int) ([]byte, api.Errno) { return pack.Put(b, append(slices.Clone(l), -1)...) },
		"PutText, an error": func(b []byte, l []int) ([]byte, api.Errno) {
			return pack.PutText(b, strings.Repeat("t", api.MaxText+1+len(l)))
		},
	}
	for name, call := range calls {
		for size := range 20 {
			for _, spare := range []int{0, 1, 9, 300} {
				for _, l := range [][]int{nil, {5}, {255}, {1, 300, 2}} {
					b, whole := room(bytes.Repeat([]byte{0xAA}, size), spare)
					was, numbers := slices.Clone(whole), slices.Clone(l)
					out, _ := call(b, l)
					if !bytes.Equal(whole, was) || !slices.Equal(numbers, l) {
						t.Fatalf("%s changes what is handed in: % X, % X", name, was, whole)
					}
					told := slices.Clone(out)
					for i := range whole {
						whole[i] = 0x11
					}
					if !bytes.Equal(out, told) {
						t.Fatalf("%s answers memory that is handed in", name)
					}
					for i := range out[:cap(out)] {
						out[:cap(out)][i] = 0x22
					}
					if !bytes.Equal(whole, bytes.Repeat([]byte{0x11}, len(whole))) {
						t.Fatalf("%s: a change of what is answered changes what was handed in", name)
					}
				}
			}
		}
	}
}

// P4.4: two answers on top of the same bytes are apart.
func TestPutTwice(t *testing.T) {
	b, _ := room([]byte{1}, 50)
	start, _ := pack.Put(b, 2)
	one, _ := pack.Put(start, 3)
	other, _ := pack.PutText(start, "xy")
	sameBytes(t, "the start", start, api.OK, []byte{1, 2}, api.OK)
	sameBytes(t, "the one", one, api.OK, []byte{1, 2, 3}, api.OK)
	sameBytes(t, "the other", other, api.OK, []byte{1, 2, 2, 'x', 'y'}, api.OK)
}

// P4.4: what is read is not changed, and not kept: a change of it, in between, counts for nothing.
func TestReadKeepsNothing(t *testing.T) {
	want := slices.Concat(model(3), modelText("abc"), model(300), modelText("d"))
	b, whole := room(want, 20)
	was := slices.Clone(whole)
	r := pack.Read(b)
	same(t, "Num", r.Num(9), 3)
	s := r.Text(9)
	same(t, "Text", s, "abc")
	if !bytes.Equal(whole, was) {
		t.Error("what is read is changed")
	}
	for i := range whole {
		whole[i] = 0xFF
	}
	same(t, "Text, behind a change", s, "abc")
	same(t, "Num, behind a change", r.Num(300), 300)
	same(t, "Text, behind a change", r.Text(9), "d")
	sameGood(t, "behind a change", r, 0)
	if !bytes.Equal(whole, bytes.Repeat([]byte{0xFF}, len(whole))) {
		t.Error("what was read is changed")
	}
}

// item is a number, or a text, of a row.
type item struct {
	isText bool
	n      int
	s      string
}

// items is a row of some, the same one each time.
func items(random *rand.Rand) []item {
	var l []item
	for range random.Intn(8) {
		switch random.Intn(4) {
		case 0:
			l = append(l, item{n: random.Intn(300)})
		case 1:
			l = append(l, item{n: numbers[random.Intn(len(numbers))]})
		case 2:
			l = append(l, item{n: random.Intn(greatest + 1)})
		case 3:
			s := make([]byte, random.Intn(3+297*random.Intn(2)))
			random.Read(s)
			l = append(l, item{isText: true, s: string(s)})
		}
	}
	return l
}

// write puts a row behind bytes.
func write(t *testing.T, b []byte, l []item) []byte {
	t.Helper()
	for _, x := range l {
		var e api.Errno
		if x.isText {
			b, e = pack.PutText(b, x.s)
		} else {
			b, e = pack.Put(b, x.n)
		}
		same(t, fmt.Sprintf("Put of %v", x), e, api.OK)
	}
	return b
}

// P4.5: what was put is read as it was, and what stands behind it is left.
func TestReadWhatWasPut(t *testing.T) {
	random := rand.New(rand.NewSource(4))
	for range 2000 {
		l := items(random)
		tail := make([]byte, random.Intn(12))
		random.Read(tail)
		r := pack.Read(append(write(t, nil, l), tail...))
		for _, x := range l {
			if x.isText {
				same(t, "Text", r.Text(len(x.s)+random.Intn(2)), x.s)
			} else {
				same(t, "Num", r.Num(x.n+random.Intn(2)), x.n)
			}
		}
		sameGood(t, "behind what was put", r, len(tail))
	}
}

// P4.5: what can be read, of any bytes, is written so.
func TestWriteWhatIsRead(t *testing.T) {
	random := rand.New(rand.NewSource(5))
	read := 0
	for range 20000 {
		b := make([]byte, random.Intn(14))
		for i := range b {
			b[i] = []byte{0, 1, 2, 31, 32, 254, 255, byte(random.Intn(256))}[random.Intn(8)]
		}
		if random.Intn(2) == 0 {
			b = slices.Concat([]byte{255, 0, byte(random.Intn(33))}, b)
		}
		r := pack.Read(b)
		n := r.Num(math.MaxInt)
		if r.Err() == api.OK {
			read++
			out, e := pack.Put(nil, n)
			sameBytes(t, fmt.Sprintf("Put of what was read of % X", b), out, e, b[:len(b)-r.Left()], api.OK)
		}
		r = pack.Read(b)
		s := r.Text(api.MaxText)
		if r.Err() == api.OK {
			read++
			out, e := pack.PutText(nil, s)
			sameBytes(t, fmt.Sprintf("PutText of what was read of % X", b), out, e, b[:len(b)-r.Left()], api.OK)
		}
	}
	if read < 5000 {
		t.Errorf("only %d were read", read)
	}
}

// P4.6: bytes that are cut anywhere are told by ErrTrunc, and what is whole ahead of that is read.
func TestCut(t *testing.T) {
	random := rand.New(rand.NewSource(6))
	for range 300 {
		l := items(random)
		b := write(t, nil, l)
		for end := range b {
			r := pack.Read(b[:end])
			for i, x := range l {
				whole := len(write(t, nil, l[:i+1])) <= end
				switch {
				case x.isText && whole:
					same(t, "Text", r.Text(greatest), x.s)
				case x.isText:
					same(t, "Text", r.Text(greatest), "")
				case whole:
					same(t, "Num", r.Num(greatest), x.n)
				default:
					same(t, "Num", r.Num(greatest), 0)
				}
			}
			sameState(t, fmt.Sprintf("cut at %d of %d", end, len(b)), r, 0, api.ErrTrunc, api.ErrTrunc)
		}
	}
}
