package tag

import (
	"fmt"
	"math/rand"
	"strings"
	"testing"

	"bulwark/api"
)

// frames are good ones of many kinds: the shortest, such as look like other frames inside, the longest.
func frames() []string {
	all := []string{
		"35=D|", "35=D|11=7|", "35=E|", "35==|", "35=8=FIX.4.4|", "35=D|35=D|", "35=\x00|", "35=\xff\x80|", "35=D|58=10=186|", "35=D|58=a=b=c|", "35=D|9999=9999|1=1|", "35=D|38=99|",
		"35=D|1=2|11=1|55=0|38=51|44=100|",
		"35=D|58=8=FIX.4.4|91=5|35=D|101=183|", // with a header inside
		"35=D|58=x8=FIX.4.4|98=8=FIX.4.4|11=7|",
	}
	for i, body := range all {
		all[i] = framed(bar(body))
	}
	for _, size := range []int{9, 10, 99, 100, 999, 1000, 4095, 4096} {
		all = append(all, framed(spelled(long(size, size/2000))))
	}
	return all
}

// TestChapterExamples are the chapter's.
func TestChapterExamples(t *testing.T) {
	frame := bar("8=FIX.4.4|9=10|35=D|11=7|10=186|")
	if b, e := Encode([]api.Field{{Tag: 35, Val: "D"}, {Tag: 11, Val: "7"}}); string(b) != frame || e != api.OK {
		t.Errorf("Encode: %q, error %d", b, e)
	}
	checkDecode(t, "x in front", "x"+frame, answer{n: 1, e: api.ErrForm})
	checkDecode(t, "11=8", strings.Replace(frame, "11=7", "11=8", 1), answer{n: len(frame), e: api.ErrSum})
}

// TestBeginning is P7.1 for step 1: no bytes, parts of what every frame begins with, and others.
func TestBeginning(t *testing.T) {
	front := bar("8=FIX.4.4|9=")
	for n := range front {
		checkDecode(t, "a part", front[:n], answer{e: api.ErrShort})
	}
	checkDecode(t, "all of it", front, answer{e: api.ErrShort})
	if fields, n, e := Decode(nil); len(fields) != 0 || n != 0 || e != api.ErrShort {
		t.Errorf("nil: %v, %d, error %d", fields, n, e)
	}
	for _, c := range []struct {
		b string
		n int
	}{
		{"9", 1}, {"x", 1}, {"\x01", 1}, {"\x00", 1}, {"|", 1}, {" ", 1}, {"8 ", 2}, {"8=fix", 5}, {"8=FIX.4.2\x01", 10}, {"8=FIX.4.4 ", 10}, {"8=FIX.4.4\x018=", 10}, {"8=FIX.4.4\x0110=", 13}, {"8=FIX.4.4\x01 9=5", 14}, {"8=FIX.4.4\x01\x01", 11}, {"8=FIX.4.49=5", 12}, {"8=FIX.4.4|9=5|", 14}, {"8=FIX.5.4\x019=5\x01", 14}, {"8=FIXT.1.1\x019=5\x01", 15}, {"\x008=FIX.4.4\x019=5\x01", 1}, {"9=5\x0135=D\x0110=1", 13},
	} {
		checkDecode(t, "another beginning", c.b, answer{n: c.n, e: api.ErrForm})
	}
	for n := range front {
		for c := range 256 {
			if byte(c) != front[n] {
				s := front[:n] + string([]byte{byte(c)}) + front[n+1:] + "5\x01"
				checkDecode(t, "a byte changed", s, answer{n: skip(s), e: api.ErrForm})
				s = front[:n] + string([]byte{byte(c)})
				checkDecode(t, "a byte changed at the end", s, answer{n: skip(s), e: api.ErrForm})
			}
		}
	}
}

// TestNumberOfBytes is P7.1 for step 2.
func TestNumberOfBytes(t *testing.T) {
	for _, c := range []struct {
		digits string
		e      api.Errno
	}{
		{"", api.ErrShort}, {"5", api.ErrShort}, {"9", api.ErrShort}, {"10", api.ErrShort}, {"409", api.ErrShort}, {"4096", api.ErrShort}, {"1000", api.ErrShort},
		{"|", api.ErrForm}, {"|5|", api.ErrForm}, {"||", api.ErrForm}, {"|35=D|10=183|", api.ErrForm},
		{"0", api.ErrForm}, {"0|", api.ErrForm}, {"00", api.ErrForm}, {"05", api.ErrForm}, {"05|", api.ErrForm}, {"0005|", api.ErrForm}, {"0x5|", api.ErrForm}, {"-0|", api.ErrForm},
		{"4097", api.ErrForm}, {"4097|", api.ErrForm}, {"4100", api.ErrForm}, {"5000", api.ErrForm}, {"9999", api.ErrForm}, {"10000", api.ErrForm}, {"40960", api.ErrForm}, {"4096000000000|", api.ErrForm}, {"65541|", api.ErrForm}, {"4294967301|", api.ErrForm}, {"18446744073709551621|", api.ErrForm}, {"9223372036854775808|", api.ErrForm}, {strings.Repeat("1", 5000), api.ErrForm}, {"10" + strings.Repeat("0", 300) + "|", api.ErrForm},
		{"x", api.ErrForm}, {"5x", api.ErrForm}, {"5x|", api.ErrForm}, {"1x0|", api.ErrForm}, {"5 |", api.ErrForm}, {" 5|", api.ErrForm}, {"+5|", api.ErrForm}, {"-5|", api.ErrForm}, {"5.|", api.ErrForm}, {"5=", api.ErrForm}, {"1_0|", api.ErrForm}, {"5/", api.ErrForm}, {"5:", api.ErrForm}, {"/", api.ErrForm}, {":", api.ErrForm}, {"5\x00", api.ErrForm}, {"5\x02", api.ErrForm}, {"4096x", api.ErrForm}, {"\u0665|", api.ErrForm}, {"5\xff", api.ErrForm}, {"\xb5|", api.ErrForm},
	} {
		s := bar("8=FIX.4.4|9=" + c.digits)
		want := answer{e: c.e}
		if c.e == api.ErrForm {
			want.n = len(s)
		}
		checkDecode(t, "digits", s, want)
		if c.e == api.ErrForm {
			behind := framed("35=D\x01")
			checkDecode(t, "digits, a frame behind", s+behind, answer{n: len(s), e: api.ErrForm})
			for _, body := range []int{1, 5, 4096, 4097, 5000} {
				whole := closed(s + "\x01" + strings.Repeat("b", body))
				checkDecode(t, "digits, many bytes behind", whole, answer{n: len(whole), e: api.ErrForm})
			}
		}
	}
	for size := range 6000 {
		s := bar(fmt.Sprintf("8=FIX.4.4|9=%d|", size))
		want := answer{e: api.ErrShort}
		if size == 0 || size > 4096 {
			want = answer{n: len(s), e: api.ErrForm}
		}
		checkDecode(t, "a number of bytes", s, want)
	}
}

// TestEachByteForADigit is P7.1 for every byte in each place of the number of bytes, whatever follows.
func TestEachByteForADigit(t *testing.T) {
	for _, digits := range []string{"5", "27", "409", "4096", "4090"} {
		for at := range len(digits) + 1 {
			for c := range 256 {
				for _, behind := range []string{"", "\x01", "5\x01", digits[min(at+1, len(digits)):], "\x01" + framed("35=D\x01")} {
					s := bar("8=FIX.4.4|9=") + digits[:at] + string([]byte{byte(c)}) + behind
					checkDecode(t, "a byte among the digits", s, decoded(s))
				}
			}
		}
	}
}

// TestPrefixes is P7.2 and P7.1: a proper prefix of a frame is too short.
func TestPrefixes(t *testing.T) {
	for _, frame := range frames() {
		for n := range frame {
			if got := answerOf(frame[:n]); got != (answer{e: api.ErrShort}) {
				t.Errorf("%d bytes of %.60q: %v", n, frame, got)
			}
		}
	}
}

// TestTooShort is P7.1 for step 3, which stands before the faults of step 4: fewer bytes than stated, and than seven behind.
func TestTooShort(t *testing.T) {
	for _, size := range []int{1, 4, 5, 6, 99, 4096} {
		for _, fill := range []string{"x", "\x01", "0", "\xff", "8=FIX.4.4\x01"} {
			front := bar(fmt.Sprintf("8=FIX.4.4|9=%d|", size))
			all := front + strings.Repeat(fill, size+10)
			for n := len(front); n < len(front)+size+7; n++ {
				if got := answerOf(all[:n]); got != (answer{e: api.ErrShort}) {
					t.Errorf("%d bytes of %.60q: %v", n, all, got)
				}
			}
			s := all[:len(front)+size+7]
			checkDecode(t, "just as many", s, answer{n: skip(s), e: api.ErrForm})
		}
	}
}

// TestBehind is P7.2 and P7.1: what follows a frame changes nothing.
func TestBehind(t *testing.T) {
	all := frames()
	for _, frame := range all {
		want := decoded(frame)
		if want.n != len(frame) || want.e != api.OK {
			t.Fatalf("the model's Decode of %.60q: %v", frame, want)
		}
		behind := []string{"", "x", "\x01", "\x00", "8", "8=FIX.4.4\x01", bar("8=FIX.4.4|9=5|"), strings.Repeat("\xff", 5000), "10=000\x01", frame[:len(frame)/2], frame[1:], strings.Replace(frame, "35=", "36=", 1)}
		for _, other := range append(behind, all...) {
			if got := answerOf(frame + other); got != want {
				t.Errorf("%.60q and %.60q: %v, want %v", frame, other, got, want)
			}
		}
	}
}

// TestSevenBytes is P7.1 for each of the seven bytes at the end in all its values.
func TestSevenBytes(t *testing.T) {
	for _, frame := range frames() {
		if len(frame) > 200 {
			continue
		}
		from := len(frame) - 7
		for at := range 7 {
			for c := range 256 {
				b := []byte(frame)
				if b[from+at] == byte(c) {
					continue
				}
				b[from+at] = byte(c)
				want := api.ErrForm
				if at >= 3 && at <= 5 && c >= '0' && c <= '9' {
					want = api.ErrSum
				}
				for _, behind := range []string{"", "x", framed("35=D\x01")} {
					s := string(b) + behind
					checkDecode(t, "a byte at the end", s, answer{n: skip(s), e: want})
				}
			}
		}
	}
}

// TestOtherChecksums is P7.1 for each number of three digits in place of the checksum.
func TestOtherChecksums(t *testing.T) {
	for _, frame := range frames() {
		if len(frame) > 200 {
			continue
		}
		at := len(frame) - 4
		for n := range 1000 {
			digits := fmt.Sprintf("%03d", n)
			s := frame[:at] + digits + "\x01"
			want := decoded(frame)
			if digits != frame[at:at+3] {
				want = answer{n: skip(s), e: api.ErrSum}
			}
			checkDecode(t, "a checksum", s, want)
		}
		for _, digits := range []string{"", "1", "10", "0", "00", "1000", "0000", " 10", "+10", "1.0"} {
			s := frame[:at] + digits + "\x01"
			checkDecode(t, "a checksum of another form", s+"xxx", answer{n: skip(s + "xxx"), e: api.ErrForm})
		}
	}
}

// TestEverySum is P7.1 for frames with each small sum: with leading zeros as needed.
func TestEverySum(t *testing.T) {
	seen := map[string]bool{}
	for c := range 256 {
		if c == 1 {
			continue
		}
		for _, second := range []string{"", "x"} {
			fields := []api.Field{{Tag: 35, Val: string([]byte{byte(c)}) + second}}
			b, e := Encode(fields)
			if e != api.OK {
				t.Fatalf("%d: error %d", c, e)
			}
			checkDecode(t, "each sum", string(b), answer{said(fields), len(b), api.OK})
			seen[string(b[len(b)-4:len(b)-1])] = true
		}
	}
	if len(seen) != 256 || !seen["000"] || !seen["009"] || !seen["010"] || !seen["099"] || !seen["255"] {
		t.Errorf("%d checksums", len(seen))
	}
}

// wrongBodies are bodies that are not the encoding of the fields of a frame.
func wrongBodies() []string {
	var all []string
	for _, field := range []string{
		"=7|", "=|", "11|", "11=|", "|", "x|", "=", "x=7|", // no tag, no value, no =
		"0=7|", "00=7|", "011=7|", "0011=7|", "01=7|", "0x11=7|", "000011=7|",
		"1x=7|", "x1=7|", "1x1=7|", " 11=7|", "11 =7|", "+11=7|", "-11=7|", "1_1=7|", "11.=7|", "1e1=7|", "\u0661=7|", "1\x00=7|", "\xb1=7|", ":=7|", "/=7|", "1:=7|", "1/=7|",
		"10000=7|", "99999=7|", "10011=7|", "65547=7|", "4294967307=7|", "9223372036854775807=7|", "9223372036854775808=7|", "18446744073709551627=7|", strings.Repeat("1", 1000) + "=7|", strings.Repeat("0", 1000) + "11=7|",
		"8=7|", "9=7|", "10=7|", "8=FIX.4.4|", "9=5|", "10=186|", "08=7|", "010=7|",
	} {
		all = append(all, "35=D|"+field, "35=D|11=7|"+field, "35=D|"+field+"11=7|", field+"35=D|", field)
		// Without the 01 at the end too, in whose place there may be a byte too many.
		if cut := strings.TrimSuffix(field, "|"); cut != "" {
			all = append(all, "35=D|"+cut, "35=D|11=7|"+cut)
		}
	}
	return append(all, "35=D", "35=D|11=7", "35=D|11=", "35=D|11", "35=D||", "35=D|11=7||", "||", "|||", "35=", "35", "3", "35|=D|", "35|D|", "35D|", "35:D|", "35=|", "35=|11=7|", "=D|", "D|", "036=D|", "035=D|", "35 =D|", " 35=D|", "+35=D|", "-35=D|", "3 5=D|", "035=D", "+35=D", "0035=D|11=7", "36=D|", "34=D|", "3=5|", "3=5=D|", "355=D|", "135=D|", "11=7|", "11=7|35=D|", "1=35=D|", "x", "xxxxx", "35=D\n", "35=D\x00", "35=D\x02", "35=D\xff", strings.Repeat("35=D", 1000), strings.Repeat("|", 4096), strings.Repeat("x", 4096), strings.Repeat("=", 4095)+"|", "35="+strings.Repeat("D", 4093))
}

// TestBodies is P7.1 for the end of step 4: bodies that are not the encoding of the fields of a frame, with the number of bytes and the checksum right; and for what stands before it, with those wrong too.
func TestBodies(t *testing.T) {
	good := framed("35=D\x01")
	for _, written := range wrongBodies() {
		body := bar(written)
		s := framed(body)
		checkDecode(t, "a wrong body", s, answer{n: skip(s), e: api.ErrForm})
		checkDecode(t, "a wrong body, a frame behind", s+good, answer{n: skip(s + good), e: api.ErrForm})
		b := []byte(s)
		b[len(b)-2] = '0' + (b[len(b)-2]-'0'+1)%10
		checkDecode(t, "a wrong body, a wrong checksum", string(b), answer{n: skip(string(b)), e: api.ErrSum})
		b[len(b)-2] = 'x'
		checkDecode(t, "a wrong body, no checksum", string(b), answer{n: skip(string(b)), e: api.ErrForm})
		checkDecode(t, "a wrong body, a byte short", s[:len(s)-1], answer{e: api.ErrShort})
	}
	s := closed(bar("8=FIX.4.4|9=0|"))
	checkDecode(t, "no body", s, answer{n: len(s), e: api.ErrForm})
	s = closed(bar("8=FIX.4.4|9=|"))
	checkDecode(t, "no body and no number", s, answer{n: len(s), e: api.ErrForm})
}

// TestOtherBodies is P7.1 for bodies that look odd and are good.
func TestOtherBodies(t *testing.T) {
	for _, c := range []struct {
		body, fields string
	}{
		{"35=D|", `35="D"`}, {"35==|", `35="="`}, {"35=35=D|", `35="35=D"`}, {"35=D|35=E|35=D|", `35="D" 35="E" 35="D"`}, {"35=D|1==7|", `35="D" 1="=7"`}, {"35=D|7=0|", `35="D" 7="0"`}, {"35=D|9999=09|", `35="D" 9999="09"`}, {"35= |11= |", `35=" " 11=" "`}, {"35=\x0011=7|", `35="\x0011=7"`}, {"35=D\n11=7|", `35="D\n11=7"`}, {"35=\xff|", `35="\xff"`}, {"35=D|80=a|90=b|100=c|81=d|108=e|", `35="D" 80="a" 90="b" 100="c" 81="d" 108="e"`}, {"35=D|58=8=FIX.4.4|", `35="D" 58="8=FIX.4.4"`},
	} {
		s := framed(bar(c.body))
		checkDecode(t, c.body, s, answer{c.fields, len(s), api.OK})
	}
}

// TestNumberOffByOne is P7.1 for frames whose number of bytes is another one, with the right checksum behind just so many bytes or where it was.
func TestNumberOffByOne(t *testing.T) {
	for size := 1; size < 40; size++ {
		s := closed(bar(fmt.Sprintf("8=FIX.4.4|9=%d|35=D|1=2|38=51|", size)))
		want := answer{e: api.ErrShort}
		switch {
		case size == 15:
			want = answer{`35="D" 1="2" 38="51"`, len(s), api.OK}
		case size < 15:
			want = answer{n: len(s), e: api.ErrForm}
		}
		checkDecode(t, "the checksum where it was", s, want)
		body := bar("35=D|1=2|38=51|")[:min(size, 15)]
		s = closed(bar(fmt.Sprintf("8=FIX.4.4|9=%d|", len(body))) + body)
		checkDecode(t, "the checksum behind the bytes", s, decoded(s))
	}
}

// TestEachByteChanged is P7.4: no changed frame is decoded as one of the same length; and P7.1 for it.
func TestEachByteChanged(t *testing.T) {
	for _, frame := range frames() {
		values := 255
		if len(frame) > 200 {
			values = 5
		}
		r := rand.New(rand.NewSource(int64(len(frame))))
		for at := range frame {
			for _, by := range r.Perm(255)[:values] {
				b := []byte(frame)
				b[at] ^= byte(1 + by)
				for _, behind := range []string{"", frame} {
					s := string(b) + behind
					got := answerOf(s)
					if got.e == api.OK && got.n == len(frame) {
						t.Errorf("byte %d of %.60q is %d: %v", at, frame, b[at], got)
					}
					if len(frame) < 200 {
						checkDecode(t, "a byte changed", s, decoded(s))
					}
				}
			}
		}
	}
}
