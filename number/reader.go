package number

// Reader is at a place in bytes, for what reads several things one behind the other. Once something is wrong, it stays so, and what is read has no meaning: who reads needs to ask only now and then.
type Reader struct {
	left  string
	wrong bool
}

// From is a Reader at the beginning of s.
func From(s string) Reader {
	return Reader{left: s}
}

// Wrong says whether something was wrong.
func (r *Reader) Wrong() bool {
	return r.wrong
}

// Refuse lets something be wrong that only the caller knows of.
func (r *Reader) Refuse() {
	r.wrong = true
}

// Number is the next number, without a sign.
func (r *Reader) Number() uint64 {
	n, behind, ok := Read(r.left)
	r.left = behind
	r.wrong = r.wrong || !ok
	return n
}

// UpTo is the next number, of at most so much: a greater one is wrong, and comes to 0, so that nobody goes so far.
func (r *Reader) UpTo(most int) int {
	n := r.Number()
	if r.wrong || most < 0 || n > uint64(most) {
		r.wrong = true
		return 0
	}
	return int(n)
}

// Bytes are the next n bytes.
func (r *Reader) Bytes(n int) string {
	if n < 0 || n > len(r.left) {
		r.wrong = true
		return ""
	}
	s := r.left[:n]
	r.left = r.left[n:]
	return s
}
