package raw

import (
	"strconv"
	"strings"

	"ostler/api"
)

const (
	lineEnd     = "\r\n"
	versionLine = " HTTP/1.1" + lineEnd
	blanks      = " \t"
	lengthName  = "Content-Length"
	maxMethod   = 16
)

// reader reads a request from its first byte on. Its parts are read in their order, each up to where the next begins; at stays at the byte that is wrong.
type reader struct {
	s        string
	at       int
	q        api.Req
	lengthAt int // where the value of the first head that says the body's length begins, if there is one
}

// method reads the method.
func (r *reader) method() api.Errno {
	r.q.Method = r.run(isCapital, maxMethod)
	if r.q.Method == "" {
		return r.wrong()
	}
	return r.want(" ")
}

// target reads the path and the query.
func (r *reader) target() api.Errno {
	start := r.at
	if why := r.want("/"); why != api.OK {
		return why
	}
	r.run(isSeen, len(r.s))
	r.q.Path, r.q.Query, _ = strings.Cut(r.s[start:r.at], "?")
	return api.OK
}

// version reads what ends the first line.
func (r *reader) version() api.Errno {
	return r.want(versionLine)
}

// heads reads the head lines, with the empty line behind them.
func (r *reader) heads() api.Errno {
	for r.at < len(r.s) && r.s[r.at] != lineEnd[0] {
		if len(r.q.Heads) == api.MaxHeads {
			return api.ErrMany
		}
		if why := r.head(); why != api.OK {
			return why
		}
	}
	return r.want(lineEnd)
}

// head reads a head line.
func (r *reader) head() api.Errno {
	name := r.run(isOfName, api.MaxName)
	if name == "" {
		return r.wrong()
	}
	if why := r.want(":"); why != api.OK {
		return why
	}
	r.run(isBlank, len(r.s))
	start := r.at
	value := strings.TrimRight(r.run(isOfValue, len(r.s)), blanks)
	if r.lengthAt == 0 && isSameName(name, lengthName) {
		r.lengthAt = start
	}
	r.q.Heads = append(r.q.Heads, api.Pair{Name: name, Value: value})
	return r.want(lineEnd)
}

// body reads the body.
func (r *reader) body() api.Errno {
	r.q.Body = r.s[r.at:]
	return api.OK
}

// length holds the body against the head that tells its length.
func (r *reader) length() api.Errno {
	value, ok := Head(r.q, lengthName)
	if !ok || value == strconv.Itoa(len(r.q.Body)) {
		return api.OK
	}
	r.at = r.lengthAt
	return api.ErrNum
}

// run reads bytes as long as they may stand there, but no more than most.
func (r *reader) run(may func(c byte) bool, most int) string {
	start := r.at
	for r.at < len(r.s) && r.at-start < most && may(r.s[r.at]) {
		r.at++
	}
	return r.s[start:r.at]
}

// want reads a text that must stand there.
func (r *reader) want(text string) api.Errno {
	for i := range len(text) {
		if r.at == len(r.s) || r.s[r.at] != text[i] {
			return r.wrong()
		}
		r.at++
	}
	return api.OK
}

// wrong is the error at a place where what must stand there does not.
func (r *reader) wrong() api.Errno {
	if r.at == len(r.s) {
		return api.ErrOpen
	}
	return api.ErrForm
}

func isCapital(c byte) bool { return 'A' <= c && c <= 'Z' }

// isSeen tells whether a byte may stand in a target.
func isSeen(c byte) bool { return 33 <= c && c <= 126 }

func isOfName(c byte) bool {
	return isCapital(capital(c)) || '0' <= c && c <= '9' || c == '-'
}

func isBlank(c byte) bool { return c == ' ' || c == '\t' }

func isOfValue(c byte) bool { return c == '\t' || 32 <= c && c != 127 }
