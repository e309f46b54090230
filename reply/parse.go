package reply

import (
	"bytes"
	"strings"

	"stowage/api"
	"stowage/chars"
	"stowage/enc"
	"stowage/when"
)

// statusDigits is how many digits a status has: with fewer or more, Print's answers are none that are read.
const statusDigits = 3

// Parse reads the answer at the beginning of b, which is that to a HEAD request, if head.
func Parse(b []byte, head bool) (r api.Reply, used int, ok bool) {
	p := &reader{b: b}
	if !p.opening() || !p.headers() || !p.ending() {
		return api.Reply{}, 0, false
	}
	if !head && !p.body() {
		return api.Reply{}, 0, false
	}
	return p.told, p.at, true
}

// reader goes over the bytes of an answer. Each of its methods tells whether what it reads is there as it should be.
type reader struct {
	b    []byte
	at   int    // how many bytes of b are read
	text string // the last line that was read
	told api.Reply
	size int // of the body; 0, if the status is bare
}

func (p *reader) next() bool {
	rest := p.b[p.at:]
	size := bytes.Index(rest, []byte(lineEnd))
	if size < 0 {
		return false
	}
	p.text = string(rest[:size])
	p.at += size + len(lineEnd)
	return true
}

// opening reads the lines ahead of the headers.
func (p *reader) opening() bool {
	return p.next() && p.status() &&
		p.next() && p.text == serverLine &&
		p.next() && isDate(p.text) &&
		p.next() && isID(p.text)
}

// status takes the first line apart. Three digits that are an enc.Int do not begin with a 0.
func (p *reader) status() bool {
	told, ok := strings.CutPrefix(p.text, version+" ")
	digits, phrase, _ := strings.Cut(told, " ")
	status, isNumber := enc.Int(digits)
	p.told.Status = status
	return ok && isNumber && len(digits) == statusDigits && phrase == Phrase(status)
}

func isDate(text string) bool {
	date, ok := strings.CutPrefix(text, dateBegin)
	_, isTime := when.ParseHttp(date)
	return ok && isTime
}

func isID(text string) bool {
	id, ok := strings.CutPrefix(text, idBegin)
	return ok && isValue(id)
}

func isValue(s string) bool {
	return chars.Value(s) && chars.Trim(s) == s
}

// headers reads the headers and the line that ends them, which is left to ending.
func (p *reader) headers() bool {
	for p.next() {
		if p.endsHeaders() {
			return true
		}
		h, ok := headerOf(p.text)
		if !ok {
			return false
		}
		p.told.Headers = append(p.told.Headers, h)
	}
	return false
}

func (p *reader) endsHeaders() bool {
	if Bare(p.told.Status) {
		return p.text == closeLine || p.text == ""
	}
	return strings.HasPrefix(p.text, lengthBegin)
}

func headerOf(text string) (api.Header, bool) {
	name, value, found := strings.Cut(text, between)
	if !found || !chars.Token(name) || !isValue(value) || isAdded(name) {
		return api.Header{}, false
	}
	return api.Header{Name: name, Value: value}, true
}

// isAdded tells whether a line of that name is one that Print adds, and so none of the headers.
func isAdded(name string) bool {
	switch name {
	case "Server", "Date", "x-amz-request-id", "Content-Length", "Connection":
		return true
	}
	return false
}

// ending reads all from the line that ends the headers to the empty one.
func (p *reader) ending() bool {
	if !Bare(p.told.Status) {
		size, ok := enc.Int(strings.TrimPrefix(p.text, lengthBegin))
		if !ok || !p.next() {
			return false
		}
		p.size = size
	}
	if p.text == closeLine && !p.next() {
		return false
	}
	return p.text == ""
}

func (p *reader) body() bool {
	rest := p.b[p.at:]
	if len(rest) < p.size {
		return false
	}
	p.told.Body = bytes.Clone(rest[:p.size])
	p.at += p.size
	return true
}
