package tag

import (
	"fmt"
	"regexp"
	"slices"
	"strings"
	"testing"

	"bulwark/api"
)

// bar is s with the byte 01 where a | stands, as the document writes frames.
func bar(s string) string { return strings.ReplaceAll(s, "|", "\x01") }

// total is what stands in the field 10 behind these bytes.
func total(s string) string {
	n := 0
	for i := range len(s) {
		n += int(s[i])
	}
	return fmt.Sprintf("%03d", n%256)
}

// closed is s with the right checksum behind it.
func closed(s string) string { return s + "10=" + total(s) + "\x01" }

// framed is a frame but for its body, which may have any bytes: their number and the checksum are right.
func framed(body string) string {
	return closed(fmt.Sprintf("8=FIX.4.4\x019=%d\x01%s", len(body), body))
}

// inBody is a field in the body of a frame, and anyBody what consists of such ones.
var (
	inBody  = regexp.MustCompile(`([1-9][0-9]{0,3})=([^\x01]+)\x01`)
	anyBody = regexp.MustCompile(`^35=[^\x01]+\x01([1-9][0-9]{0,3}=[^\x01]+\x01)*$`)
	lastOne = regexp.MustCompile(`^10=[0-9]{3}\x01$`)
)

// said are fields as a text that no others have.
func said(fields []api.Field) string {
	var all []string
	for _, f := range fields {
		all = append(all, fmt.Sprintf("%d=%q", f.Tag, f.Val))
	}
	return strings.Join(all, " ")
}

// answer is what Decode returns.
type answer struct {
	fields string
	n      int
	e      api.Errno
}

func answerOf(b string) answer {
	fields, n, e := Decode([]byte(b))
	return answer{said(fields), n, e}
}

// spelled is the body of fields, whatever they are.
func spelled(fields []api.Field) string {
	body := ""
	for _, f := range fields {
		body += fmt.Sprintf("%d=%s\x01", f.Tag, f.Val)
	}
	return body
}

// validity is Valid in the chapter's words.
func validity(fields []api.Field) api.Errno {
	if len(fields) == 0 || fields[0].Tag != 35 {
		return api.ErrForm
	}
	for _, f := range fields {
		if f.Tag < 1 || f.Tag > 9999 || slices.Contains([]int{8, 9, 10}, f.Tag) || len(f.Val) < 1 || slices.Contains([]byte(f.Val), 1) {
			return api.ErrForm
		}
	}
	if len(spelled(fields)) > 4096 {
		return api.ErrLong
	}
	return api.OK
}

// bodyFields are the fields of a body, told as said tells them, and whether it is one.
func bodyFields(body string) (string, bool) {
	if !anyBody.MatchString(body) {
		return "", false
	}
	var all []string
	for _, m := range inBody.FindAllStringSubmatch(body, -1) {
		if m[1] == "8" || m[1] == "9" || m[1] == "10" {
			return "", false
		}
		all = append(all, fmt.Sprintf("%s=%q", m[1], m[2]))
	}
	return strings.Join(all, " "), true
}

// stated is the number of bytes of a body with which s begins, and what follows the byte 01 behind it.
func stated(s string) (size int, rest string, e api.Errno) {
	for read := 0; ; read++ {
		digits := s[:read]
		if strings.HasPrefix(digits, "0") {
			return 0, "", api.ErrForm
		}
		fmt.Sscanf("0"+digits, "%d", &size)
		if size > 4096 {
			return 0, "", api.ErrForm
		}
		if read == len(s) {
			return 0, "", api.ErrShort
		}
		if s[read] == 1 && read > 0 {
			return size, s[read+1:], api.OK
		}
		if !strings.Contains("0123456789", s[read:read+1]) {
			return 0, "", api.ErrForm
		}
	}
}

// decoded is what Decode is to return, step by step in the chapter's words.
func decoded(s string) answer {
	begin := "8=FIX.4.4\x019="
	if s == "" || s != begin && strings.HasPrefix(begin, s) {
		return answer{e: api.ErrShort}
	}
	if !strings.HasPrefix(s, begin) {
		return answer{n: skip(s), e: api.ErrForm}
	}
	size, rest, e := stated(s[len(begin):])
	if e == api.ErrShort || e == api.OK && len(rest) < size+7 {
		return answer{e: api.ErrShort}
	}
	if e != api.OK || !lastOne.MatchString(rest[size:size+7]) {
		return answer{n: skip(s), e: api.ErrForm}
	}
	n := len(s) - len(rest) + size
	if s[n+3:n+6] != total(s[:n]) {
		return answer{n: skip(s), e: api.ErrSum}
	}
	fields, ok := bodyFields(rest[:size])
	if !ok {
		return answer{n: skip(s), e: api.ErrForm}
	}
	return answer{fields: fields, n: n + 7, e: api.OK}
}

// skip is how many bytes are skipped.
func skip(s string) int {
	begin := "8=FIX.4.4\x01"
	for i := 1; i < len(s); i++ {
		if strings.HasPrefix(s[i:], begin) {
			return i
		}
	}
	for i := 1; i < len(s); i++ {
		if strings.HasPrefix(begin, s[i:]) {
			return i
		}
	}
	return len(s)
}

// yielded is what Frames yields once.
type yielded struct {
	fields string
	e      api.Errno
}

// visited is what Frames is to yield, and what Rest is to return.
func visited(s string) ([]yielded, int) {
	var all []yielded
	for {
		a := decoded(s)
		if a.e == api.ErrShort {
			return all, len(s)
		}
		all = append(all, yielded{a.fields, a.e})
		s = s[a.n:]
	}
}

// framesOf is what Frames yields.
func framesOf(s string) []yielded {
	var all []yielded
	for fields, e := range Frames([]byte(s)) {
		all = append(all, yielded{said(fields), e})
	}
	return all
}

// checkDecode holds Decode against what is wanted, and the model too, for other tests trust it.
func checkDecode(t *testing.T, name, s string, want answer) {
	t.Helper()
	if got := answerOf(s); got != want {
		t.Errorf("%s: Decode of %.60q: %v, want %v", name, s, got, want)
	}
	if got := decoded(s); got != want {
		t.Errorf("%s: the model's Decode of %.60q: %v, want %v", name, s, got, want)
	}
}

// checkFrames holds Frames and Rest against the model.
func checkFrames(t *testing.T, s string) {
	t.Helper()
	want, rest := visited(s)
	if got := framesOf(s); !slices.Equal(got, want) {
		t.Errorf("Frames of %.200q: %v, want %v", s, got, want)
	}
	if got := Rest([]byte(s)); got != rest {
		t.Errorf("Rest of %.200q: %d, want %d", s, got, rest)
	}
}
