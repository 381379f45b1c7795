package folio_test

import (
	"runtime"
	"strings"
	"sync"
	"testing"
	"time"
	"unicode/utf8"
	"unsafe"

	"folio/api"
	"folio/folio"
)

const no = "\uFFFD"

type decodeCase struct{ name, bytes, want string }

func checkDecode(t *testing.T, cases []decodeCase) {
	t.Helper()
	for _, c := range cases {
		if got, errno := folio.Decode(c.bytes); got != c.want || errno != api.OK {
			t.Errorf("P2: %s: Decode(%q) = %q, %d, want %q", c.name, c.bytes, got, errno, c.want)
		}
	}
}

func TestDecodeOrdinary(t *testing.T) {
	checkDecode(t, []decodeCase{
		{"nothing", "", ""},
		{"small letters", "abc", "abc"},
		{"the document's example", "\xc3\xa9\n\r\n\xff", "é\n\n" + no},
		{"letters of one to four bytes", "a\u00e9\u20ac\U0001F600z", "aé€😀z"},
		{"letters that are kept", "\t\n\x0c\x01\x1f\x7f\u0080\u0085\u2028", "\t\n\x0c\x01\x1f\x7f\u0080\u0085\u2028"},
		{"the substitute itself", "a\xef\xbf\xbdb", "a" + no + "b"},
		{"letters that no text has", "\ufffe\uffff\ufdd0\U0001fffe", "\ufffe\uffff\ufdd0\U0001fffe"},
		{"a page is not read here", "<p>&amp;&#13;&#0;</p>", "<p>&amp;&#13;&#0;</p>"},
	})
}

func TestDecodeFirstAndLastOfEachLength(t *testing.T) {
	checkDecode(t, []decodeCase{
		{"one byte", "\x01\x7f", "\u0001\u007f"},
		{"two bytes", "\xc2\x80\xdf\xbf", "\u0080\u07ff"},
		{"three bytes", "\xe0\xa0\x80\xef\xbf\xbf", "\u0800\uffff"},
		{"around the halves of pairs", "\xed\x9f\xbf\xee\x80\x80", "\ud7ff\ue000"},
		{"four bytes", "\xf0\x90\x80\x80\xf4\x8f\xbf\xbf", "\U00010000\U0010ffff"},
	})
}

func TestDecodeTooFewFollowers(t *testing.T) {
	checkDecode(t, []decodeCase{
		{"one of two, at the end", "\xc3", no},
		{"one of two", "\xc3a", no + "a"},
		{"one of three", "\xe2a", no + "a"},
		{"two of three, at the end", "\xe2\x82", no},
		{"two of three", "\xe2\x82a", no + "a"},
		{"one of four", "\xf0a", no + "a"},
		{"two of four", "\xf0\x9fa", no + "a"},
		{"three of four, at the end", "\xf0\x9f\x98", no},
		{"three of four", "\xf0\x9f\x98a", no + "a"},
		{"a lead behind it", "\xe2\x82\xe2\x82\xac", no + "€"},
		{"leads alone", "\xc3\xc3\xe2\xf0", no + no + no + no},
		{"a byte that begins nothing behind it", "\xe2\x82\xff\xe2\x82\xc0", no + no + no + no},
		{"one more than it needs", "\xc3\xa9\xa9", "é" + no},
	})
}

func TestDecodeFollowersThatMayNotBe(t *testing.T) {
	checkDecode(t, []decodeCase{
		{"behind 224", "\xe0\x9f\x80", no + no + no},
		{"behind 237", "\xed\xa0\x80", no + no + no},
		{"behind 240", "\xf0\x8f\xbf\xbf", no + no + no + no},
		{"behind 244", "\xf4\x90\x80\x80", no + no + no + no},
		{"the bound is the first one's alone, 224", "\xe0\xa0\x80", "\u0800"},
		{"the bound is the first one's alone, 237", "\xed\x80\xbf", "\ud03f"},
		{"the bound is the first one's alone, 240", "\xf0\x90\x80\x80", "\U00010000"},
		{"the bound is the first one's alone, 244", "\xf4\x80\xbf\xbf", "\U00100fff"},
		{"no bound is left over", "\xe0a\xe1\x80\x80", no + "a\u1000"},
		{"a pair of halves", "\xed\xa0\xbd\xed\xb8\x80", no + no + no + no + no + no},
	})
}

func TestDecodeBytesThatBeginNothing(t *testing.T) {
	for b := 128; b < 256; b++ {
		in := string([]byte{'a', byte(b), 'z'})
		if got, errno := folio.Decode(in); got != "a"+no+"z" || errno != api.OK {
			t.Errorf("P2: Decode(%q) = %q, %d", in, got, errno)
		}
	}
	checkDecode(t, []decodeCase{
		{"followers", "\x80\xbf", no + no},
		{"192 and 193", "\xc0\x80\xc1\xbf", no + no + no + no},
		{"245 and up", "\xf5\x80\x80\x80\xff", no + no + no + no + no},
	})
}

func TestDecodeMarkInFront(t *testing.T) {
	checkDecode(t, []decodeCase{
		{"alone", "\xef\xbb\xbf", ""},
		{"in front", "\xef\xbb\xbfx", "x"},
		{"twice", "\xef\xbb\xbf\xef\xbb\xbfx", "\ufeffx"},
		{"behind a letter", "x\xef\xbb\xbf", "x\ufeff"},
		{"behind a substitute", "\xff\xef\xbb\xbf", no + "\ufeff"},
		{"behind a 13", "\r\xef\xbb\xbf\n", "\n\ufeff\n"},
		{"behind a 0", "\x00\xef\xbb\xbf", no + "\ufeff"},
		{"two bytes of it", "\xef\xbb", no},
		{"two bytes of it, and on", "\xef\xbbx", no + "x"},
		{"two bytes of it, and it", "\xef\xbb\xef\xbb\xbf", no + "\ufeff"},
		{"13 10 behind it", "\xef\xbb\xbf\r\n", "\n"},
		{"the letters beside it", "\xef\xbb\xbe", "\ufefe"},
		{"marks of other ways to write letters", "\xff\xfe\xfe\xff", no + no + no + no},
	})
}

func TestDecodeReturnsAndNull(t *testing.T) {
	checkDecode(t, []decodeCase{
		{"13", "a\rb", "a\nb"},
		{"13 at the end", "a\r", "a\n"},
		{"13 10", "a\r\nb", "a\nb"},
		{"13 13 10", "\r\r\n", "\n\n"},
		{"13 10 10", "\r\n\n", "\n\n"},
		{"10 13", "\n\r", "\n\n"},
		{"13 10 13 10", "\r\n\r\n", "\n\n"},
		{"13 between", "\r\r\n\n\r", "\n\n\n\n"},
		{"a letter between", "\ra\n", "\na\n"},
		{"a substitute between", "\r\xc3\n", "\n" + no + "\n"},
		{"a 0 between", "\r\x00\n", "\n" + no + "\n"},
		{"behind a lead", "\xc3\r\n", no + "\n"},
		{"0", "\x00", no},
		{"0 in a text", "a\x00\x00b", "a" + no + no + "b"},
		{"0 behind a lead", "\xe2\x82\x00", no + no},
	})
}

func TestDecodeLimit(t *testing.T) {
	for _, unit := range []string{"x", "\xff", "\x00", "\xc3", "\r", "é", "\r\n", "😀"} {
		full := strings.Repeat(unit, api.MaxBytes/len(unit))
		got, errno := folio.Decode(full)
		if errno != api.OK || got != reference(full) {
			t.Errorf("P2: %d bytes of %q: %d bytes, %d", len(full), unit, len(got), errno)
		}
		for _, more := range []string{full + "x", full + "\xef\xbb\xbf", "\xef\xbb\xbf" + full, full + full} {
			if got, errno := folio.Decode(more); got != "" || errno != api.ErrLarge {
				t.Errorf("P2: %d bytes of %q: %d bytes, %d, want ErrLarge alone", len(more), unit, len(got), errno)
			}
		}
	}
}

// reference goes by what utf8 knows of letters, and not by bounds of bytes.
func reference(bytes string) string {
	bytes = strings.TrimPrefix(bytes, "\xef\xbb\xbf")
	var text strings.Builder
	for len(bytes) > 0 {
		letter, size := utf8.DecodeRuneInString(bytes)
		if letter == utf8.RuneError && size == 1 {
			size = brokenLength(bytes)
		}
		text.WriteRune(letter)
		bytes = bytes[size:]
	}
	return strings.NewReplacer("\r\n", "\n", "\r", "\n", "\x00", no).Replace(text.String())
}

// brokenLength is that of the longest front of bytes that more bytes would make a letter.
func brokenLength(bytes string) int {
	for size := min(3, len(bytes)); size > 1; size-- {
		for _, rest := range []string{"\x80", "\x80\x80"} {
			whole := bytes[:size] + rest
			if letter, n := utf8.DecodeRuneInString(whole); letter != utf8.RuneError && n == len(whole) {
				return size
			}
		}
	}
	return 1
}

func checkReference(t *testing.T, bytes string) {
	t.Helper()
	if got, errno := folio.Decode(bytes); got != reference(bytes) || errno != api.OK {
		t.Fatalf("P2: Decode(%q) = %q, %d, want %q", bytes, got, errno, reference(bytes))
	}
}

func TestDecodeEveryLetter(t *testing.T) {
	var page strings.Builder
	flush := func() {
		text := page.String()
		page.Reset()
		if got, errno := folio.Decode(text); got != text || errno != api.OK {
			t.Fatalf("P2: letters from %U on are not as they were, %d", []rune(text)[0], errno)
		}
	}
	page.WriteByte('x')
	for letter := rune(1); letter <= utf8.MaxRune; letter++ {
		if letter == '\r' || !utf8.ValidRune(letter) {
			continue
		}
		page.WriteRune(letter)
		if page.Len() > api.MaxBytes-utf8.UTFMax {
			flush()
			page.WriteByte('x')
		}
	}
	flush()
}

func TestDecodeEveryPairOfBytes(t *testing.T) {
	for pair := range 1 << 16 {
		checkReference(t, string([]byte{byte(pair >> 8), byte(pair)}))
	}
}

func TestDecodeRowsOfEdges(t *testing.T) {
	const edges = "\x00\n\ra\x7f\x80\x8f\x90\x9f\xa0\xbb\xbf\xc1\xc2\xdf\xe0\xe1\xed\xef\xf0\xf1\xf4\xf5\xff"
	n := len(edges)
	for row := range n * n * n {
		checkReference(t, string([]byte{edges[row%n], edges[row/n%n], edges[row/n/n]}))
	}
	for _, lead := range []byte("\xe0\xed\xef\xf0\xf1\xf4") {
		for row := range n * n * n {
			checkReference(t, string([]byte{lead, edges[row%n], edges[row/n%n], edges[row/n/n]}))
		}
	}
}

func FuzzDecode(f *testing.F) {
	f.Add("\xef\xbb\xbf\xe2\x82\xac\r\n\x00\xf0\x9f\x98")
	f.Fuzz(func(t *testing.T, bytes string) {
		if len(bytes) <= api.MaxBytes {
			checkReference(t, bytes)
		} else if got, errno := folio.Decode(bytes); got != "" || errno != api.ErrLarge {
			t.Fatalf("P2: %d bytes: %d bytes, %d", len(bytes), len(got), errno)
		}
	})
}

func TestDecodeGivesNewMemory(t *testing.T) {
	in := strings.Repeat("abc", 100)
	got, _ := folio.Decode(in)
	from, to := uintptr(unsafe.Pointer(unsafe.StringData(in))), uintptr(unsafe.Pointer(unsafe.StringData(got)))
	if got != in || to >= from && to < from+uintptr(len(in)) {
		t.Errorf("P1: Decode's letters stand in the bytes that were handed in")
	}
}

func TestDecodeLeavesNoGoroutine(t *testing.T) {
	before := runtime.NumGoroutine()
	for range 200 {
		folio.Decode("a\xe2\x82\r\n")
		folio.Decode(strings.Repeat("x", api.MaxBytes+1))
	}
	// A goroutine that has done its last work may be counted for a moment yet.
	for range 100 {
		if runtime.NumGoroutine() <= before {
			return
		}
		time.Sleep(time.Millisecond)
	}
	t.Errorf("P1: %d goroutines, %d ahead of the calls", runtime.NumGoroutine(), before)
}

func TestDecodeSideBySide(t *testing.T) {
	var calls sync.WaitGroup
	for i := range 50 {
		calls.Go(func() {
			in := strings.Repeat("\xe2\x82\xac\xe2\x82\r\n\x00", i)
			for range 10 {
				if got, errno := folio.Decode(in); got != reference(in) || errno != api.OK {
					t.Errorf("P1: Decode(%q) = %q, %d", in, got, errno)
				}
			}
		})
	}
	calls.Wait()
}
