package plan

import (
	"maps"
	"slices"

	"millpond/bucket"
	"millpond/commit"
	"millpond/scan"
)

// Vacuum lets files go that a version had, but none has from one on: how many. commit.Load's errors. (Files that no version had yet stay: somebody may be about to add them.)
func Vacuum(b *bucket.Bucket, from int) (_ int, _ error) {
	now, err := commit.Load(b, -1)
	if err != nil {
		return 0, err
	}
	last, err := lastVersions(b, now.Version)
	if err != nil {
		return 0, err
	}
	from = min(max(from, 0), now.Version)
	old := slices.DeleteFunc(slices.Sorted(maps.Keys(last)), func(path string) bool { return last[path] >= from })
	went := 0
	for _, path := range old {
		if b.Delete(scan.Key(path)) == nil { // one that went before does not go again
			went++
		}
	}
	return went, nil
}

// lastVersions tells by path which is the last version, up to now, that had a file. commit.Load's errors.
func lastVersions(b *bucket.Bucket, now int) (map[string]int, error) {
	last := map[string]int{}
	for version := range now + 1 {
		s, err := commit.Load(b, version)
		if err != nil {
			return nil, err
		}
		for _, f := range s.Files {
			last[f.Path] = version
		}
	}
	return last, nil
}
