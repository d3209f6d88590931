package pool

import (
	"understudy/api"
	"understudy/text"
	"understudy/wire"
)

// How many bytes tags have, and counts and places.
const (
	tagSize   = 1
	countSize = 2
)

// mostBytes is how many bytes a pool has at most: no constant has more than a text.
const mostBytes = countSize + (api.MaxPool-1)*(tagSize+countSize+api.MaxName)

// writeConst writes c, a constant of a right pool: nothing of it can be refused.
func writeConst(w *wire.Writer, c api.Const) {
	s, _ := shapeOf(c.Tag)
	w.Uint(tagSize, uint64(c.Tag))
	if s.isText {
		b, _ := text.Encode(c.Text)
		w.Uint(countSize, uint64(len(b)))
		w.Bytes(b)
	}
	if s.size > 0 {
		w.Int(s.size, c.N)
	}
	for i, place := range [2]int{c.A, c.B} {
		if s.leads[i] != 0 {
			w.Uint(countSize, uint64(place))
		}
	}
}

// Encode answers the bytes of the pool p.
func Encode(p []api.Const) ([]byte, api.Errno) {
	if e := Check(p); e != api.OK {
		return nil, e
	}
	w, _ := wire.NewWriter(mostBytes)
	w.Uint(countSize, uint64(len(p)))
	for _, c := range p[1:] {
		writeConst(w, c)
	}
	return w.Out(), api.OK
}

// readCount reads a count or a place.
func readCount(r *wire.Reader) (int, api.Errno) {
	n, e := r.Uint(countSize)
	return int(n), e
}

// readText reads the text of a constant. One that is too long is refused ahead of its bytes, be they there or not.
func readText(r *wire.Reader) (string, api.Errno) {
	n, e := readCount(r)
	if e != api.OK {
		return "", e
	}
	if n > api.MaxName {
		return "", api.ErrUtf
	}
	b, e := r.Bytes(n)
	if e != api.OK {
		return "", e
	}
	return text.Decode(b)
}

// readPlaces reads the places that the shape s has, up to the first that is missing.
func readPlaces(r *wire.Reader, s shape) ([2]int, api.Errno) {
	var places [2]int
	for i, tag := range s.leads {
		if tag == 0 {
			continue
		}
		place, e := readCount(r)
		if e != api.OK {
			return places, e
		}
		places[i] = place
	}
	return places, api.OK
}

// readConst reads a constant; where its places lead is not looked at.
func readConst(r *wire.Reader) (api.Const, api.Errno) {
	tag, e := r.Uint(tagSize)
	if e != api.OK {
		return api.Const{}, e
	}
	s, isTag := shapeOf(int(tag))
	if !isTag {
		return api.Const{}, api.ErrPool
	}
	c := api.Const{Tag: int(tag)}
	switch {
	case s.isText:
		c.Text, e = readText(r)
	case s.size > 0:
		c.N, e = r.Int(s.size)
	default:
		var places [2]int
		places, e = readPlaces(r, s)
		c.A, c.B = places[0], places[1]
	}
	return c, e
}

// readPool reads a pool, and checks it as a whole when all of it is read.
func readPool(r *wire.Reader) ([]api.Const, error) {
	n, e := readCount(r)
	if e != api.OK {
		return nil, fault{0, e}
	}
	if err := checkCount(n); err != nil {
		return nil, err
	}
	p := make([]api.Const, n)
	for i := 1; i < n; i++ {
		if p[i], e = readConst(r); e != api.OK {
			return nil, fault{i, e}
		}
	}
	return p, checkPool(p)
}

// Decode answers the pool that b begins with, and how many bytes it has.
func Decode(b []byte) ([]api.Const, int, api.Errno) {
	r := wire.NewReader(b[:min(mostBytes, len(b))]) // what stands behind is not looked at, however much it is
	p, err := readPool(r)
	if err != nil {
		return nil, 0, which(err)
	}
	return p, r.At(), api.OK
}
