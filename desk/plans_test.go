package desk_test

import (
	"fmt"
	"strings"
	"testing"
)

// 13.1, 11.2: create: the word, and Rows; it is only planned.
func TestCreate(t *testing.T) {
	talk(t,
		"create t a:int", "create 0",
		"version", "version 0",
		"columns", "columns",
		"create u b:text c:int!", "create 0",
		"do u", "do 1",
		"columns", "columns 1:b 2:c",
		"do t", "error 6", // they fight, and u was first
		"create v a:int", "error 9",
		"version", "version 1",
	)
}

// 13.1, 11.2: alter: more, less, called.
func TestAlter(t *testing.T) {
	behind(t, table,
		"alter v more c:int=5", "alter 0",
		"columns", "columns 1:a 2:b",
		"do v", "do 3",
		"columns", "columns 1:a 2:b 3:c",
		"rows", "rows 1 (1,'x',5) (2,'x y',5) (null,null,5)",
		"alter v called a e", "alter 0",
		"do v", "do 4",
		"columns", "columns 1:e 2:b 3:c",
		"alter v less b", "alter 0",
		"do v", "do 5",
		"columns", "columns 1:e 3:c",
		"rows e = 1", "rows 1 (1,5)",
		"alter v less b", "error 7",
		"alter v called b a", "error 7",
		"alter v called e c", "error 9",
		"alter v more c:text", "error 9",
		"alter v more d:int!", "error 1",
		"alter v more d:int!=null", "error 1",
		"alter v more d:int!=1", "alter 0",
		"do v", "do 6",
		"columns", "columns 1:e 3:c 4:d",
	)
}

// 13.1: put: a row more is about to come; cut: none is; insert: those that are, which are no more then.
func TestInsert(t *testing.T) {
	behind(t, table,
		"put 3 'c'", "put",
		"put 4 'd'", "put",
		"rows a > 2", "rows 0",
		"insert v", "insert 2",
		"insert w", "error 4",
		"rows a > 2", "rows 0",
		"do v", "do 3",
		"rows a > 2", "rows 1 (3,'c') (4,'d')",
		"put 5 'e'", "put",
		"cut", "cut",
		"insert w", "error 4",
		"cut", "cut",
		"put 6 'f'", "put",
		"cut", "cut",
		"put 7 'g'", "put",
		"insert w", "insert 1",
		"do w", "do 4",
		"rows a > 4", "rows 1 (7,'g')",
	)
}

// 13.1: rows are about to come no more, also if insert tells an error: of who plans, of the table, of a row, of too many, of the bucket.
func TestInsertWrong(t *testing.T) {
	talk(t,
		"put 1", "put",
		"insert t", "error 6",
		"create t a:int!", "create 0",
		"do t", "do 1",
		"insert u", "error 4",
		"put 1", "put",
		"insert U", "error 1",
		"insert u", "error 4",
		"put 1 2", "put",
		"put 1", "put",
		"insert u", "error 1",
		"insert u", "error 4",
		"put 1", "put",
		"put null", "put",
		"insert u", "error 7",
		"insert u", "error 4",
		"put 1", "put",
		"fault 1", "fault",
		"insert u", "error 14",
		"insert u", "error 4",
		"put 2", "put",
		"insert u", "insert 1",
		"put 3", "put",
		"insert u", "error 9",
		"insert v", "error 4",
		"do u", "do 2",
		"rows", "rows 1 (2)",
	)
	for _, rows := range []int{60, 61} {
		both := strings.Split(strings.Repeat("put 1\nput\n", rows), "\n")
		both = append(both[:len(both)-1], "insert v", map[int]string{60: "insert 60", 61: "error 4"}[rows], "insert w", "error 4")
		behind(t, "create t a:int\ndo t", both...)
	}
}

// 13.1: delete, of a condition, or of all.
func TestDelete(t *testing.T) {
	behind(t, table,
		"delete v a = 1 or b = 'x y'", "delete 2",
		"rows", "rows 1 (1,'x') (2,'x y') (null,null)",
		"do v", "do 3",
		"rows", "rows 1 (null,null)",
		"files", "files u_0:3-2",
		"log 3", "log commit v reads | mask u_0 0,1",
		"delete v a = 1", "delete 0",
		"do v", "do 3",
		"delete v", "delete 1",
		"do v", "do 4",
		"log 4", "log commit v reads | remove u_0",
		"rows", "rows 0",
		"delete v c = 1", "error 5",
		"delete v a = 'x'", "error 1",
		"delete v a = ", "error 3",
		"delete v null", "error 3",
	)
}

// 13.1: update, with where and without, of one column and of several.
func TestUpdate(t *testing.T) {
	behind(t, table,
		"update v a=7", "update 3",
		"rows", "rows 1 (1,'x') (2,'x y') (null,null)",
		"do v", "do 3",
		"rows", "rows 1 (7,'x') (7,'x y') (7,null)",
		"update w b='n_o' a=null where b is null", "update 1",
		"do w", "do 4",
		"rows", "rows 2 (7,'x') (7,'x y') (null,'n o')",
		"update x a=1 where a = 8", "update 0",
		"do x", "do 4",
		"update x a=1 where a =", "error 3",
		"update x c=1", "error 5",
		"update x a='x'", "error 1",
		"update x a=1 where b = 1", "error 1",
		"update x a=1 a=1", "error 9",
		"update x a=1 b='w' where not ( a = 7 or b = 'where' )", "update 0",
		"update x a=1 b='w' where not (a = 7) or b = 'n o' and a is null", "update 1",
		"do x", "do 5",
		"rows b = 'w'", "rows 1 (1,'w')",
	)
}

// 13.1: compact: the word, and how many rows there are.
func TestCompact(t *testing.T) {
	behind(t, table,
		"compact v", "compact 3",
		"do v", "do 2", // there was nothing to be done
		"put 4 null", "put",
		"insert v", "insert 1",
		"do v", "do 3",
		"delete w a = 1", "delete 1",
		"do w", "do 4",
		"files", "files u_0:3-1 v_0:1-0",
		"compact x", "compact 3",
		"do x", "do 5",
		"files", "files x_0:3-0",
		"rows", "rows 1 (2,'x y') (null,null) (4,null)",
		"at 4", "at 2 (2,'x y') (null,null) (4,null)",
	)
}

// 13.1: what is planned stands in the place of what the same one had planned; others have theirs.
func TestPlanned(t *testing.T) {
	behind(t, table,
		"delete v a = 1", "delete 1",
		"delete v a is null", "delete 1",
		"do v", "do 3",
		"do v", "error 7",
		"rows", "rows 1 (1,'x') (2,'x y')",
		"update v a=5 where a = 1", "update 1",
		"alter w more c:int", "alter 0",
		"alter w called a d", "alter 0",
		"do w", "do 4",
		"columns", "columns 1:d 2:b",
		"do v", "error 6",
		"do w", "error 7",
		"put 1 'p'", "put",
		"insert x", "insert 1",
		"put 2 'q'", "put",
		"insert y", "insert 1",
		"do y", "do 5",
		"do x", "do 6", // they do not fight
		"files", "files u_0:3-1 y_0:1-0 x_0:1-0",
	)
	behind(t, table,
		"delete v a = 1", "delete 1",
		"delete v c = 1", "error 5", // what tells an error is not planned
		"compact v v", "error 3",
		"do v", "do 3",
		"rows", "rows 1 (2,'x y') (null,null)",
	)
}

// 13.1: do: nothing is planned any more, also if Do tells an error; the version.
func TestDo(t *testing.T) {
	behind(t, table,
		"do v", "error 7",
		"do u", "error 7",
		"do V", "error 7",
		"delete v a = 1", "delete 1",
		"fault 1", "fault",
		"do v", "error 14",
		"do v", "error 7",
		"version", "version 2",
		"delete v a = 1", "delete 1",
		"fault 2", "fault",
		"do v", "do 3", // it is told to have gone wrong, and yet is done
		"do v", "error 7",
		"delete v a = 2", "delete 1",
		"delete w a is null", "delete 1",
		"do v", "do 4",
		"do w", "error 6",
		"do w", "error 7",
	)
}

// 13.1: Do's errors: no room for a file more, or for a version more.
func TestDoFull(t *testing.T) {
	var text strings.Builder
	text.WriteString("create t a:int\ndo t\n")
	for i := range 40 {
		fmt.Fprintf(&text, "put %d\ninsert f%d\ndo f%d\n", i, i, i)
	}
	behind(t, text.String(),
		"put 40", "put",
		"insert x", "insert 1",
		"do x", "error 12",
		"do x", "error 7",
		"version", "version 41",
	)
	for i := range 159 {
		fmt.Fprintf(&text, "alter x called %s\ndo x\n", []string{"a b", "b a"}[i%2])
	}
	behind(t, text.String(),
		"version", "version 200",
		"alter x called b a", "alter 0",
		"do x", "error 12",
		"version", "version 200",
	)
}

// 13.1, 6.1: fault: those are the next ones, of files and of commits; those that are left are forgotten.
func TestFault(t *testing.T) {
	behind(t, table+"put 5 null",
		"fault 0 1 2", "fault",
		"insert v", "insert 1",
		"do v", "error 14",
		"put 5 null", "put",
		"insert w", "insert 1",
		"do w", "do 3",
		"fault 1 1 1", "fault",
		"fault", "fault",
		"delete v a = 5", "delete 1",
		"do v", "do 4",
		"fault 1 1", "fault",
		"fault 3 -1 -9223372036854775808 4294967297 1", "fault",
		"put 6 null", "put",
		"insert x", "insert 1",
		"do x", "do 5",
		"put 6 null", "put",
		"insert y", "insert 1",
		"do y", "do 6",
		"put 7 null", "put",
		"insert z", "error 14",
		"rows a > 2", "rows 2 (6,null) (6,null)",
	)
}
