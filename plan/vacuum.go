package plan

import (
	"maps"
	"slices"

	"millpond/api"
	"millpond/bucket"
	"millpond/commit"
	"millpond/log"
	"millpond/scan"
)

// Vacuum lets files go that a version had, but none has from one on: how many. commit.Load's errors. (Files that no version had yet stay: somebody may be about to add them.)
func Vacuum(b *bucket.Bucket, from int) (_ int, _ error) {
	now, err := commit.Load(b, -1)
	if err != nil {
		return 0, err
	}
	last := lastVersions(b, now.Version)
	from = min(max(from, 0), now.Version)
	old := slices.DeleteFunc(slices.Sorted(maps.Keys(last)), func(path string) bool { return last[path] >= from })
	went := 0
	for _, path := range old {
		if b.Delete(scan.Key(path)) == nil { // one that went before does not go again
			went++
		}
	}
	return went, nil
}

// lastVersions tells by path which is the last version, up to now, that had a file. The table at now was loaded, so that each commit up to it is there, and may be done behind the others: one walk is enough, as loading each version from the beginning on would be many.
func lastVersions(b *bucket.Bucket, now int) map[string]int {
	last := map[string]int{}
	var s api.Snapshot
	for version := 1; version <= now; version++ {
		text, _ := b.Get(log.Key(version))
		c, _ := log.Parse(text)
		s, _ = log.Apply(s, c)
		for _, f := range s.Files {
			last[f.Path] = version
		}
	}
	return last
}
