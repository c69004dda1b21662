package encode

import (
	"millpond/api"
	"millpond/number"
)

// Decode reads a column of a kind, as Encode writes it. ErrForm.
func Decode(kind int, s string) (_ []api.Value, _ error) {
	r := reader{kind: kind, left: s}
	l := r.column()
	if r.wrong {
		return nil, api.ErrForm
	}
	// What was read may yet lie in a longer way, or hold what no column may have: only writing it again tells.
	if again, err := Encode(kind, l); err != nil || again != s {
		return nil, api.ErrForm
	}
	return l, nil
}

// reader is at a place in a column's bytes. Once something is wrong, it stays so, and what is read has no meaning.
type reader struct {
	kind  int
	left  string
	wrong bool
}

func (r *reader) column() []api.Value {
	n := r.upTo(api.MaxRows)
	nulls := r.bytes(bytesOfMarks(n))
	way := r.bytes(1)
	if r.wrong {
		return nil
	}
	l := make([]api.Value, n)
	var places []int
	for i := range n {
		if nulls[i/8]>>(i%8)&1 == 0 {
			places = append(places, i)
		}
	}
	found := r.known(int(way[0]), len(places))
	if r.wrong {
		return nil
	}
	for i, place := range places {
		l[place] = found[i]
	}
	return l
}

// known are so many values that are not nothing, in a way.
func (r *reader) known(way, n int) []api.Value {
	switch way {
	case oneByOne:
		return r.values(n)
	case byRuns:
		return r.runs(n)
	case byWhich:
		return r.which(n)
	case bySteps:
		return r.steps(n)
	}
	r.wrong = true
	return nil
}

func (r *reader) values(n int) []api.Value {
	var l []api.Value
	for range n {
		l = append(l, r.value())
	}
	return l
}

func (r *reader) runs(n int) []api.Value {
	var l []api.Value
	for len(l) < n && !r.wrong {
		run := r.upTo(n - len(l))
		v := r.value()
		for range run {
			l = append(l, v)
		}
	}
	return l
}

func (r *reader) which(n int) []api.Value {
	different := r.values(r.upTo(n))
	var l []api.Value
	for range n {
		which := r.upTo(len(different) - 1)
		if r.wrong {
			return nil
		}
		l = append(l, different[which])
	}
	return l
}

func (r *reader) steps(n int) []api.Value {
	var l []api.Value
	var ahead int64
	for range n {
		ahead += number.Signed(r.number())
		l = append(l, api.Value{Kind: api.Int, Num: ahead})
	}
	return l
}

func (r *reader) value() api.Value {
	if r.kind == api.Int {
		return api.Value{Kind: api.Int, Num: number.Signed(r.number())}
	}
	return api.Value{Kind: api.Text, Text: r.bytes(r.upTo(api.MaxLetters))}
}

func (r *reader) number() uint64 {
	n, behind, ok := number.Read(r.left)
	r.left = behind
	r.wrong = r.wrong || !ok
	return n
}

// upTo is a number of at most so much: a greater one is wrong, and comes to 0, so that nobody goes so far.
func (r *reader) upTo(most int) int {
	n := r.number()
	if r.wrong || most < 0 || n > uint64(most) {
		r.wrong = true
		return 0
	}
	return int(n)
}

func (r *reader) bytes(n int) string {
	if n > len(r.left) {
		r.wrong = true
		return ""
	}
	s := r.left[:n]
	r.left = r.left[n:]
	return s
}
