package chunk

import (
	"strings"

	"hypostyle/api"
	"hypostyle/fixed"
	"hypostyle/nulls"
	"hypostyle/seal"
	"hypostyle/stats"
	"hypostyle/vary"
)

// wordSize: bytes of a filter's word.
const wordSize = 8

// gaveUp: why somebody read no further.
type gaveUp api.Errno

// must: go no further, if something is wrong.
func must(e api.Errno) {
	if e != api.OK {
		panic(gaveUp(e))
	}
}

// tried: what became of somebody's reading.
func tried(reading func()) (e api.Errno) {
	defer func() {
		p := recover()
		if p == nil {
			return
		}
		why, ok := p.(gaveUp)
		if !ok {
			panic(p)
		}
		e = api.Errno(why)
	}()
	reading()
	return api.OK
}

// reader: who reads the body of a head.
type reader struct{ left string }

// bytes: so many more.
func (r *reader) bytes(many int) string {
	if len(r.left) < many {
		panic(gaveUp(api.ErrNone))
	}
	s := r.left[:many]
	r.left = r.left[many:]
	return s
}

// number: the next one, however great.
func (r *reader) number() uint64 {
	n, size, e := vary.Read(r.left)
	must(e)
	r.left = r.left[size:]
	return n
}

// count: the next number, which may be at most so great.
func (r *reader) count(most int) int {
	n := r.number()
	if n > uint64(most) {
		panic(gaveUp(api.ErrMany))
	}
	return int(n)
}

// kind: the next byte, as the kind of a column.
func (r *reader) kind() int {
	kind := int(r.bytes(1)[0])
	must(nulls.Check(kind, nil))
	return kind
}

// cell: the next one, of whatever kind. A text is a copy, so that it does not hold on
// to all that it was read of.
func (r *reader) cell() api.Cell {
	c := api.Cell{Kind: int(r.bytes(1)[0])}
	switch c.Kind {
	case api.Null:
	case api.Number:
		c.N = r.number()
	case api.Text:
		c.S = strings.Clone(r.bytes(r.count(api.MaxText)))
	default:
		panic(gaveUp(api.ErrKind))
	}
	return c
}

// zone: what is known of the next page of a column of a kind.
func (r *reader) zone(kind int) api.Zone {
	var z api.Zone
	for _, n := range [3]*int{&z.Size, &z.Known.Rows, &z.Known.Nulls} {
		*n = r.count(api.MaxSize)
	}
	z.Known.Least = r.cell()
	z.Known.Most = r.cell()
	for i := range z.Filter {
		z.Filter[i] = fixed.Read(r.bytes(wordSize))
	}
	must(stats.Check(kind, z.Known))
	return z
}

// head: all of a body: a column's kind, and what is known of each of its pages.
func (r *reader) head() (int, []api.Zone) {
	kind := r.kind()
	zones := make([]api.Zone, r.count(api.MaxPages))
	rows := 0
	for i := range zones {
		zones[i] = r.zone(kind)
		rows += zones[i].Known.Rows
	}
	if r.left != "" {
		panic(gaveUp(api.ErrForm))
	}
	if rows > api.MaxRows {
		panic(gaveUp(api.ErrMany))
	}
	return kind, zones
}

// Head: the head with which a text begins: the kind, of each page what is known, and
// how many bytes the head has (R3).
func Head(s string) (int, []api.Zone, int, api.Errno) {
	body, size, e := seal.Open(s)
	if e != api.OK {
		return 0, nil, 0, e
	}
	var kind int
	var zones []api.Zone
	r := reader{body}
	if e := tried(func() { kind, zones = r.head() }); e != api.OK {
		return 0, nil, 0, e
	}
	return kind, zones, size, api.OK
}

// cell: the bytes of one in a head.
func cell(c api.Cell) string {
	s := string([]byte{byte(c.Kind)})
	switch c.Kind {
	case api.Number:
		s += vary.Write(c.N)
	case api.Text:
		s += vary.Write(uint64(len(c.S))) + c.S
	}
	return s
}

// headed: the head of a column of which this is known (R2).
func headed(kind int, zones []api.Zone) string {
	body := string([]byte{byte(kind)}) + vary.Write(uint64(len(zones)))
	for _, z := range zones {
		body += vary.All([]uint64{uint64(z.Size), uint64(z.Known.Rows), uint64(z.Known.Nulls)})
		body += cell(z.Known.Least) + cell(z.Known.Most)
		for _, word := range z.Filter {
			body += fixed.Write(word, wordSize)
		}
	}
	return seal.Put(body)
}
