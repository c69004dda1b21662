package plan

import (
	"slices"

	"millpond/api"
	"millpond/bucket"
	"millpond/scan"
	"millpond/schema"
)

// Delete plans that rows go of which a condition holds. ErrState; scan.All's errors.
func Delete(b *bucket.Bucket, tx string, c *api.Cond) (_ *Plan, _ error) {
	p, found, err := find(b, tx, c)
	if err != nil {
		return nil, err
	}
	if err := letGo(b, p, found); err != nil {
		return nil, err
	}
	return p, nil
}

// Update plans that columns of rows become otherwise of which a condition holds: they go, and are added anew. ErrState; ErrName: no such column; ErrTwice: one is told twice; scan.All's errors; ErrLimit: more than MaxRows rows; put's errors.
func Update(b *bucket.Bucket, tx string, c *api.Cond, sets []Set) (_ *Plan, _ error) {
	p, found, err := find(b, tx, c)
	if err != nil {
		return nil, err
	}
	columns, err := targets(p.Seen.Columns, sets)
	if err != nil {
		return nil, err
	}
	if len(found) == 0 { // a file without rows may not be
		return p, nil
	}
	rows := values(found)
	for _, row := range rows {
		for i, column := range columns {
			row[column] = sets[i].Value
		}
	}
	if err := put(b, p, rows); err != nil {
		return nil, err
	}
	if err := letGo(b, p, found); err != nil {
		return nil, err
	}
	return p, nil
}

// targets are where the columns stand that become otherwise. ErrName: there is no such column; ErrTwice: a set ahead is of it.
func targets(l []api.Column, sets []Set) ([]int, error) {
	var columns []int
	for _, set := range sets {
		column := schema.Find(l, set.Column)
		switch {
		case column < 0:
			return nil, api.ErrName
		case slices.Contains(columns, column):
			return nil, api.ErrTwice
		}
		columns = append(columns, column)
	}
	return columns, nil
}

// Compact plans that rows of all files are put together, in order, MaxRows a file, if that makes fewer files, or some are masked. ErrState; scan.All's errors; put's.
func Compact(b *bucket.Bucket, tx string) (_ *Plan, _ error) {
	p, found, err := find(b, tx, nil)
	if err != nil {
		return nil, err
	}
	if together(p.Seen.Files, len(found)) {
		return p, nil
	}
	for part := range slices.Chunk(values(found), api.MaxRows) {
		if err := put(b, p, part); err != nil {
			return nil, err
		}
	}
	// The files that were go first, to make room; but they are planned last, as the new ones are numbered by the actions ahead of them, from 0 on.
	p.Commit.Actions = slices.Concat(removes(p.Seen.Files), p.Commit.Actions)
	return p, nil
}

// together says whether so many rows lie in as few files as can be, and nothing is masked.
func together(files []api.Entry, rows int) bool {
	masked := slices.ContainsFunc(files, func(f api.Entry) bool { return len(f.Mask) > 0 })
	return !masked && len(files) <= (rows+api.MaxRows-1)/api.MaxRows
}

// removes are the actions by which files go.
func removes(files []api.Entry) []api.Action {
	var l []api.Action
	for _, f := range files {
		l = append(l, api.Action{Kind: api.Remove, Path: f.Path})
	}
	return l
}

// find is a plan of nothing yet that hangs on the rows of which a condition holds; and these. beginOnTable's errors; scan.All's.
func find(b *bucket.Bucket, tx string, c *api.Cond) (*Plan, []scan.Row, error) {
	p, err := beginOnTable(b, tx)
	if err != nil {
		return nil, nil, err
	}
	found, _, err := scan.All(b, p.Seen, c)
	if err != nil {
		return nil, nil, err
	}
	p.Commit.Reads = true
	p.Rows = len(found)
	return p, found, nil
}

// letGo plans that rows go, file by file: they are masked, but a file is removed that has no others. scan.All's errors.
func letGo(b *bucket.Bucket, p *Plan, rows []scan.Row) error {
	// Which others a file has is asked of the file itself, as a commit may tell of more rows than lie there, or of fewer: nothing else may go.
	all, _, err := scan.All(b, p.Seen, nil)
	if err != nil {
		return err
	}
	there, going := places(all), places(rows)
	for _, f := range p.Seen.Files {
		switch len(going[f.Path]) {
		case 0:
		case len(there[f.Path]):
			add(p, api.Action{Kind: api.Remove, Path: f.Path})
		default:
			add(p, api.Action{Kind: api.Mask, Path: f.Path, Mask: going[f.Path]})
		}
	}
	return nil
}

// places are where rows stand, by their files.
func places(rows []scan.Row) map[string][]int {
	byPath := map[string][]int{}
	for _, r := range rows {
		byPath[r.Path] = append(byPath[r.Path], r.Place)
	}
	return byPath
}

// values are what rows have in them.
func values(rows []scan.Row) [][]api.Value {
	var l [][]api.Value
	for _, r := range rows {
		l = append(l, r.Values)
	}
	return l
}
