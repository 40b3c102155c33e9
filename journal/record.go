package journal

import (
	"strings"

	"parchment/api"
	"parchment/frame"
)

// record is a record as it stands in its file.
type record struct {
	file, at int    // where its body begins
	text     string // its frame: the head that it was written with, and the body as it is now
	good     bool   // whether these two are of one another
}

// framed is the records of bodies, placed as in a file that begins with them, and their text.
func framed(bodies []string) ([]record, string, api.Errno) {
	var l []record
	var all strings.Builder
	for _, b := range bodies {
		text, e := frame.Make(b)
		if e != api.OK {
			return nil, "", e
		}
		l = append(l, record{at: all.Len() + api.HeadBytes, text: text, good: true})
		all.WriteString(text)
	}
	return l, all.String(), api.OK
}

// body is the record's body.
func (r *record) body() string { return r.text[api.HeadBytes:] }

// put puts bytes over those of the body from a place on.
func (r *record) put(from int, s string) {
	at := api.HeadBytes + from
	r.text = r.text[:at] + s + r.text[at+len(s):]
	r.good = frame.Head(r.body()) == r.text[:api.HeadBytes]
}
