package desk_test

import "testing"

// 13.1: version, columns, files, of the last version.
func TestVersionColumnsFiles(t *testing.T) {
	behind(t, table,
		"version", "version 2",
		"columns", "columns 1:a 2:b",
		"files", "files u_0:3-0",
		"put 9 'n'", "put",
		"put 8 'm'", "put",
		"insert v", "insert 2",
		"files", "files u_0:3-0",
		"do v", "do 3",
		"files", "files u_0:3-0 v_0:2-0",
		"delete w a = 1 or a = 2 or a = 9", "delete 3",
		"do w", "do 4",
		"files", "files u_0:3-2 v_0:2-1",
		"alter w less a", "alter 0",
		"do w", "do 5",
		"alter w more a:text", "alter 0",
		"do w", "do 6",
		"columns", "columns 2:b 3:a",
		"version", "version 6",
		"delete x", "delete 2",
		"do x", "do 7",
		"files", "files",
	)
}

// groups are lines that make a table of a file of three groups, and of one of one group.
const groups = `
create t a:int
do t
put 1
put 2
put 3
put 4
put 5
put 6
put 7
put 8
put 9
put 10
put 11
put 12
put 13
insert u
do u
put 5
put null
insert v
do v
`

// 13.1: rows: how many groups were looked at, and the rows, of the last version.
func TestRows(t *testing.T) {
	behind(t, groups,
		"rows", "rows 4 (1) (2) (3) (4) (5) (6) (7) (8) (9) (10) (11) (12) (13) (5) (null)",
		"rows a = 5", "rows 2 (5) (5)",
		"rows a = 7", "rows 1 (7)",
		"rows a=7", "rows 1 (7)",
		"rows a > 12", "rows 1 (13)",
		"rows a > 13", "rows 0",
		"rows a is null", "rows 1 (null)",
		"rows a = null", "rows 0",
		"rows not(a<=5)and a<>13", "rows 2 (6) (7) (8) (9) (10) (11) (12)", // of the third group it is known that all are 13
		"rows b = 1", "error 5",
		"rows a = 'x'", "error 1",
		"rows a =", "error 3",
		"rows a = 1 or", "error 3",
		"rows 1", "error 3",
		"rows a = 99999999999999999999", "error 4",
	)
}

// 13.1: at: the same of a version, which stays as it was; below 0 it is 0.
func TestAt(t *testing.T) {
	behind(t, groups+"delete w a > 1\ndo w\nalter x called a b\ndo x",
		"rows", "rows 4 (1) (null)",
		"at 5", "at 4 (1) (null)",
		"at 4", "at 4 (1) (null)",
		"at 3 a >= 12 or a is null", "at 3 (12) (13) (null)",
		"at 2 a = 5", "at 1 (5)",
		"at 1", "at 0",
		"at 0", "at 0",
		"at -1", "at 0",
		"at -9223372036854775808", "at 0",
		"at -1 a = 1", "error 5",
		"at 0 a = 1", "error 5",
		"at 4 b = 1", "error 5",
		"at 5 b = 1", "at 1 (1)",
		"at 5 a = 1", "error 5",
		"at 6", "error 7",
		"at 201", "error 7",
		"at 9223372036854775807", "error 7",
		"at 6 c = 1", "error 7",
		"at 6 c =", "error 3",
		"at 6 c = 'x'and d <> 99999999999999999999", "error 4",
	)
}

// 13.1: ask: what comes of the rows of the last version of which Where holds.
func TestAsk(t *testing.T) {
	behind(t, table+"put 2 null\ninsert v\ndo v",
		"ask select a", "ask (1) (2) (null) (2)",
		"ask select b,a", "ask ('x',1) ('x y',2) (null,null) (null,2)",
		"ask select a where a is not null order 1 desc limit 2", "ask (2) (2)",
		"ask select a, count(*), min(b) by a", "ask (null,1,null) (1,1,'x') (2,2,'x y')",
		"ask select sum(a), count(a), count(*), max(b)", "ask (5,3,4,'x y')",
		"ask select count(*) where a > 9", "ask (0)",
		"ask select max(a) where a > 9", "ask (null)",
		"ask select a where a > 9", "ask",
		"ask", "error 3",
		"ask a", "error 3",
		"ask select", "error 3",
		"ask select a limit 0", "error 4",
		"ask select a order 2", "error 4",
		"ask select c", "error 5",
		"ask select a where c = 1", "error 5",
		"ask select c where a = 'x'", "error 1", // of All ahead of Run
		"ask select sum(b)", "error 1",
		"ask select a, sum(a)", "error 6",
		"ask select a by b", "error 6",
	)
}

// 13.1: log: the lines of a commit, with | between; below 0 it is 0, where none lies.
func TestLog(t *testing.T) {
	behind(t, table+"update v b='q' where a = 1 or a is null\ndo v",
		"log 1", "log commit t blind | schema 3 1 a 1 may null;2 b 2 may null",
		"log 2", "log commit u blind | add u_0 3",
		"log 3", "log commit v reads | add v_0 2 | mask u_0 0,2",
		"log 4", "error 7",
		"log 0", "error 7",
		"log -1", "error 7",
		"log -3", "error 7",
		"log 1000000", "error 7",
		"log 9223372036854775807", "error 7",
		"log -9223372036854775808", "error 7",
	)
}

// 13.1: vacuum: how many files went.
func TestVacuum(t *testing.T) {
	lines := table + "put 4 'd'\ninsert v\ndo v\ncompact w\ndo w\nupdate x a=1\ndo x"
	behind(t, lines,
		"vacuum 3", "vacuum 0",
		"vacuum 4", "vacuum 2",
		"vacuum 4", "vacuum 0",
		"at 3", "error 7",
		"at 2", "error 7",
		"at 1", "at 0",
		"at 4", "at 1 (1,'x') (2,'x y') (null,null) (4,'d')",
		"vacuum 5", "vacuum 1",
		"at 4", "error 7",
		"rows", "rows 1 (1,'x') (1,'x y') (1,null) (1,'d')",
	)
	behind(t, lines, "vacuum -9223372036854775808", "vacuum 0", "vacuum 0", "vacuum 0", "vacuum 9223372036854775807", "vacuum 3")
	behind(t, table+"put 4 'd'\ninsert v", "vacuum 9", "vacuum 0", "do v", "do 3", "rows a = 4", "rows 1 (4,'d')")
}
