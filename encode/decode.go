package encode

import (
	"millpond/api"
	"millpond/number"
)

// Decode reads a column of a kind, as Encode writes it. ErrForm.
func Decode(kind int, s string) (_ []api.Value, _ error) {
	r := reader{number.From(s), kind}
	l := r.column()
	if r.Wrong() {
		return nil, api.ErrForm
	}
	// What was read may yet lie in a longer way, or hold what no column may have: only writing it again tells.
	if again, err := Encode(kind, l); err != nil || again != s {
		return nil, api.ErrForm
	}
	return l, nil
}

// reader is at a place in the bytes of a column of a kind.
type reader struct {
	number.Reader
	kind int
}

func (r *reader) column() []api.Value {
	n := r.UpTo(api.MaxRows)
	nulls := r.Bytes(bytesOfMarks(n))
	way := r.Bytes(1)
	if r.Wrong() {
		return nil
	}
	l := make([]api.Value, n)
	var places []int
	for i := range n {
		if nulls[i/8]>>(i%8)&1 == 0 {
			places = append(places, i)
		}
	}
	found := r.known(int(way[0]), len(places))
	if r.Wrong() {
		return nil
	}
	for i, place := range places {
		l[place] = found[i]
	}
	return l
}

// known are so many values that are not nothing, in a way.
func (r *reader) known(way, n int) []api.Value {
	switch way {
	case oneByOne:
		return r.values(n)
	case byRuns:
		return r.runs(n)
	case byWhich:
		return r.which(n)
	case bySteps:
		return r.steps(n)
	}
	r.Refuse()
	return nil
}

func (r *reader) values(n int) []api.Value {
	var l []api.Value
	for range n {
		l = append(l, r.value())
	}
	return l
}

func (r *reader) runs(n int) []api.Value {
	var l []api.Value
	for len(l) < n && !r.Wrong() {
		run := r.UpTo(n - len(l))
		v := r.value()
		for range run {
			l = append(l, v)
		}
	}
	return l
}

func (r *reader) which(n int) []api.Value {
	different := r.values(r.UpTo(n))
	var l []api.Value
	for range n {
		which := r.UpTo(len(different) - 1)
		if r.Wrong() {
			return nil
		}
		l = append(l, different[which])
	}
	return l
}

func (r *reader) steps(n int) []api.Value {
	var l []api.Value
	var ahead int64
	for range n {
		ahead += number.Signed(r.Number())
		l = append(l, api.Value{Kind: api.Int, Num: ahead})
	}
	return l
}

func (r *reader) value() api.Value {
	if r.kind == api.Int {
		return api.Value{Kind: api.Int, Num: number.Signed(r.Number())}
	}
	return api.Value{Kind: api.Text, Text: r.Bytes(r.UpTo(api.MaxLetters))}
}
