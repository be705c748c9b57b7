package lock_test

import (
	"math"
	"math/rand"
	"slices"
	"strings"
	"testing"
	"unsafe"

	"letterbox/lock"
)

const most = 1 << 40 // the greatest now, and the greatest limit

// users are texts that are easily taken for one another, the empty one first.
var users = []string{
	"", "a", "A", "b", "aa", "ab", "ann", "Ann", "ann ", " ann", "an", "inbox", "0", "1", "\x00", "a\x00", "\x00a",
	"\xff", "\xff\xfe", "\ufffd", "\u00e9", "e\u0301", "a\r\n", strings.Repeat("a", 1<<16), strings.Repeat("a", 1<<16+1), strings.Repeat("a", 1<<16) + "b",
}

// conns are numbers of all sizes.
var conns = []int{0, 1, -1, 2, 3, 4, 7, -7, 255, 256, 1<<31 - 1, 1 << 31, -1 << 31, 1 << 32, most, -most, math.MaxInt, math.MaxInt - 1, math.MinInt, math.MinInt + 1}

func expectTake(t *testing.T, l *lock.Locks, user string, conn int, want bool) {
	t.Helper()
	if got := l.Take(user, conn); got != want {
		t.Errorf("Take of %.30q by %d is %t", user, conn, got)
	}
}

func expectHolder(t *testing.T, l *lock.Locks, user string, conn int) {
	t.Helper()
	if got, ok := l.Holder(user); got != conn || !ok {
		t.Errorf("Holder of %.30q is %d, %t; want %d", user, got, ok, conn)
	}
}

func expectNobody(t *testing.T, l *lock.Locks, users ...string) {
	t.Helper()
	for _, user := range users {
		if got, ok := l.Holder(user); got != 0 || ok {
			t.Errorf("Holder of %.30q is %d, %t; want nobody", user, got, ok)
		}
	}
}

func expectDue(t *testing.T, l *lock.Locks, now int, want ...int) {
	t.Helper()
	if got := l.Due(now); !slices.Equal(got, want) {
		t.Errorf("Due of %d is %d, want %d", now, got, want)
	}
}

// P15.1

func TestTakeOfWhatNobodyHas(t *testing.T) {
	l := lock.New()
	expectNobody(t, l, users...)
	for at, user := range users {
		conn := conns[at%len(conns)]
		expectNobody(t, l, user)
		expectTake(t, l, user, conn, true)
		expectHolder(t, l, user, conn)
		expectNobody(t, l, users[at+1:]...)
	}
	for at, user := range users {
		expectHolder(t, l, user, conns[at%len(conns)])
	}
}

func TestTakeOfWhatTheSameConnHas(t *testing.T) {
	for _, conn := range conns {
		l := lock.New()
		for range 3 {
			expectTake(t, l, "ann", conn, true)
			expectHolder(t, l, "ann", conn)
		}
		l.Free(conn) // of all that it Took, however often
		expectNobody(t, l, "ann")
		expectTake(t, l, "ann", conn, true)
		expectHolder(t, l, "ann", conn)
	}
}

func TestTakeOfWhatAnotherConnHas(t *testing.T) {
	for _, conn := range conns {
		l := lock.New()
		expectTake(t, l, "ann", conn, true)
		for _, other := range conns {
			expectTake(t, l, "ann", other, other == conn)
			expectHolder(t, l, "ann", conn)
		}
		for _, other := range conns { // who was refused has nothing
			if other != conn {
				l.Free(other)
			}
		}
		expectHolder(t, l, "ann", conn)
	}
}

func TestTakeBehindFree(t *testing.T) {
	for _, conn := range conns {
		for _, other := range conns {
			l := lock.New()
			expectTake(t, l, "ann", conn, true)
			expectTake(t, l, "ann", other, other == conn)
			l.Free(other)
			if other != conn {
				expectHolder(t, l, "ann", conn)
				expectTake(t, l, "ann", other, false)
				l.Free(conn)
			}
			expectNobody(t, l, "ann")
			expectTake(t, l, "ann", other, true)
			expectHolder(t, l, "ann", other)
			expectTake(t, l, "ann", conn, other == conn)
			expectHolder(t, l, "ann", other)
		}
	}
}

func TestFreeOfOneThatHasSeveral(t *testing.T) {
	for _, conn := range conns {
		l := lock.New()
		other := conn ^ 1
		for at, user := range users {
			expectTake(t, l, user, conn^at%2, true)
		}
		l.Free(conn)
		for at, user := range users {
			if at%2 == 0 {
				expectNobody(t, l, user)
			} else {
				expectHolder(t, l, user, other)
			}
		}
		for at, user := range users {
			expectTake(t, l, user, conn, at%2 == 0)
			expectTake(t, l, user, other, at%2 == 1)
		}
		l.Free(other)
		for at, user := range users {
			if at%2 == 1 {
				expectNobody(t, l, user)
			} else {
				expectHolder(t, l, user, conn)
			}
		}
		l.Free(conn)
		expectNobody(t, l, users...)
	}
}

func TestFreeOfOneThatHasNone(t *testing.T) {
	l := lock.New()
	for _, conn := range conns {
		l.Free(conn)
	}
	expectNobody(t, l, users...)
	expectTake(t, l, "ann", 5, true)
	for _, conn := range conns {
		l.Free(conn)
		l.Free(conn)
		expectHolder(t, l, "ann", 5)
	}
	l.Free(5)
	l.Free(5)
	expectNobody(t, l, "ann")
	expectTake(t, l, "ann", 6, true)
	l.Free(5)
	expectHolder(t, l, "ann", 6)
}

func TestHolder(t *testing.T) {
	l := lock.New()
	for round := range 3 {
		expectNobody(t, l, "ann")
		expectTake(t, l, "ann", round, true)
		for range 3 {
			expectHolder(t, l, "ann", round)
			expectNobody(t, l, "", "an", "annn", "Ann", "bob")
		}
		l.Free(round)
		expectNobody(t, l, "ann")
	}
	expectTake(t, l, "", 0, true)
	expectHolder(t, l, "", 0)
	expectTake(t, l, "", 1, false)
	expectNobody(t, l, "ann", "\x00", " ")
	l.Free(0)
	expectNobody(t, l, "")
}

func TestVeryManyUsers(t *testing.T) {
	l := lock.New()
	long := strings.Repeat("x", 1<<14)
	for n := range len(long) {
		expectTake(t, l, long[:n], n%3, true)
	}
	for n := range len(long) {
		expectHolder(t, l, long[:n], n%3)
	}
	l.Free(1)
	for n := range len(long) {
		if n%3 == 1 {
			expectNobody(t, l, long[:n])
		} else {
			expectHolder(t, l, long[:n], n%3)
		}
	}
}

// P15.2

func TestDueAheadOfItAtItAndBehindIt(t *testing.T) {
	for _, now := range []int{0, 1, 2, 10, 1 << 31, 1 << 32, most - 1, most} {
		for _, limit := range []int{0, 1, 2, 10, 30, 1 << 31, 1 << 32, most - 1, most} {
			l := lock.New()
			l.Touch(5, now, limit)
			due := now + limit
			expectDue(t, l, due-1)
			expectDue(t, l, due, 5)
			expectDue(t, l, due+1, 5)
			expectDue(t, l, due-1) // whatever was asked ahead of it
			expectDue(t, l, math.MaxInt, 5)
			expectDue(t, l, math.MinInt)
			if due > 0 {
				expectDue(t, l, 0)
			}
		}
	}
}

func TestDueOfNone(t *testing.T) {
	l := lock.New()
	for _, now := range conns {
		expectDue(t, l, now)
	}
}

func TestDueOfEachConn(t *testing.T) {
	for _, conn := range conns {
		l := lock.New()
		l.Touch(conn, 10, 20)
		expectDue(t, l, 29)
		expectDue(t, l, 30, conn)
		l.Forget(conn)
		expectDue(t, l, 30)
	}
}

func TestSecondTouch(t *testing.T) {
	for _, c := range []struct{ now, limit, due int }{
		{10, 10, 20},    // the same
		{0, 20, 20},     // the same, in another way
		{20, 10, 30},    // later by now
		{10, 20, 30},    // later by the limit
		{10, 5, 15},     // earlier by the limit
		{5, 10, 15},     // earlier by now
		{0, 0, 0},       // as early as may be
		{most, 0, most}, // now alone
		{0, most, most}, // the limit alone
		{most, most, 2 * most},
	} {
		l := lock.New()
		l.Touch(5, 10, 10)
		l.Touch(6, 10, 8)
		l.Touch(5, c.now, c.limit)
		l.Forget(6)
		expectDue(t, l, c.due-1)
		expectDue(t, l, c.due, 5)
		l.Touch(5, 10, 10) // back again
		expectDue(t, l, 19)
		expectDue(t, l, 20, 5)
	}
}

// A Touch of one that is due makes it due later, and Due does not make it forgotten.
func TestTouchOfOneThatIsDue(t *testing.T) {
	l := lock.New()
	l.Touch(1, 0, 10)
	l.Touch(2, 0, 10)
	expectDue(t, l, 10, 1, 2)
	l.Touch(1, 10, 10)
	expectDue(t, l, 10, 2)
	expectDue(t, l, 19, 2)
	expectDue(t, l, 20, 1, 2)
	expectDue(t, l, 10, 2)
}

// TestDueRises goes through all orders of Touches of a few conns.
func TestDueRises(t *testing.T) {
	few := []int{-3, -1, 0, 1, 2, math.MaxInt, math.MinInt}
	rising := slices.Sorted(slices.Values(few))
	var shuffled func(at int)
	shuffled = func(at int) {
		if at < len(few) {
			for other := at; other < len(few); other++ {
				few[at], few[other] = few[other], few[at]
				shuffled(at + 1)
				few[at], few[other] = few[other], few[at]
			}
			return
		}
		l := lock.New()
		for place, conn := range few {
			l.Touch(conn, place, 1)
		}
		expectDue(t, l, 0)
		for place := range few {
			expectDue(t, l, place+1, slices.Sorted(slices.Values(few[:place+1]))...)
		}
		expectDue(t, l, len(few)+1, rising...)
	}
	shuffled(0)
}

func TestDueOfVeryMany(t *testing.T) {
	const n = 1 << 16
	l := lock.New()
	for i := range n {
		conn := i*40503%n - n/2 // each of n once, as the factor is odd
		l.Touch(conn, 0, conn&3)
	}
	expectDue(t, l, -1)
	for now := range 4 {
		var want []int
		for conn := -n / 2; conn < n/2; conn++ {
			if conn&3 <= now {
				want = append(want, conn)
			}
		}
		if got := l.Due(now); !slices.Equal(got, want) {
			t.Errorf("Due of %d is %d conns, want %d, rising", now, len(got), len(want))
		}
	}
}

func TestForget(t *testing.T) {
	l := lock.New()
	for _, conn := range conns { // never touched
		l.Forget(conn)
	}
	expectDue(t, l, math.MaxInt)
	for conn := range 6 {
		l.Touch(conn, 10, conn)
	}
	l.Forget(7)
	l.Forget(-1)
	expectDue(t, l, 12, 0, 1, 2)
	l.Forget(1) // due
	l.Forget(4) // not yet
	expectDue(t, l, 12, 0, 2)
	expectDue(t, l, 14, 0, 2, 3)
	expectDue(t, l, math.MaxInt, 0, 2, 3, 5)
	l.Forget(4)
	expectDue(t, l, math.MaxInt, 0, 2, 3, 5)
	l.Touch(4, 0, 11) // of what was forgotten
	l.Touch(1, 20, 20)
	expectDue(t, l, 10, 0)
	expectDue(t, l, 11, 0, 4)
	expectDue(t, l, 40, 0, 1, 2, 3, 4, 5)
	for conn := range 6 {
		l.Forget(conn)
	}
	expectDue(t, l, math.MaxInt)
}

// Sums are those of whole numbers, also of what is not asked for.
func TestSumsThatAreNoInts(t *testing.T) {
	const greatest, least = math.MaxInt, math.MinInt
	for _, c := range []struct{ now, limit int }{
		{greatest, 1}, {1, greatest}, {greatest, greatest}, {greatest - 4, 5}, {greatest/2 + 1, greatest/2 + 1},
	} {
		l := lock.New()
		l.Touch(5, c.now, c.limit)
		for _, now := range conns {
			expectDue(t, l, now)
		}
		l.Touch(5, 1, 1)
		expectDue(t, l, 2, 5)
		l.Touch(5, c.now, c.limit) // it is due at 2 no more
		for _, now := range conns {
			expectDue(t, l, now)
		}
	}
	for _, c := range []struct{ now, limit int }{
		{least, -1}, {-1, least}, {least, least}, {least + 4, -5}, {least/2 - 1, least / 2},
	} {
		l := lock.New()
		l.Touch(5, c.now, c.limit)
		for _, now := range conns {
			expectDue(t, l, now, 5)
		}
	}
	for _, c := range []struct{ now, limit, due int }{
		{greatest, 0, greatest}, {0, greatest, greatest}, {greatest - 5, 5, greatest}, {greatest, -1, greatest - 1}, {greatest, least, -1}, {least, greatest, -1},
		{least + 5, -4, least + 1}, {least, 1, least + 1}, {-1, least + 2, least + 1}, {-5, 3, -2}, {5, -7, -2}, {-3, -4, -7}, {3, -3, 0},
	} {
		l := lock.New()
		l.Touch(5, c.now, c.limit)
		expectDue(t, l, c.due-1)
		expectDue(t, l, c.due, 5)
	}
	l := lock.New()
	l.Touch(5, least, 0)
	expectDue(t, l, least, 5)
}

// P15.1 and P15.2 do not touch one another's table.
func TestTwoTables(t *testing.T) {
	l := lock.New()
	expectTake(t, l, "ann", 1, true)
	expectTake(t, l, "bob", 2, true)
	expectTake(t, l, "bob", 1, false)
	expectDue(t, l, math.MaxInt) // who Takes is not touched
	l.Touch(1, 10, 10)
	l.Touch(2, 10, 20)
	l.Touch(3, 10, 30)
	expectNobody(t, l, "", "cat")
	l.Free(1)
	l.Free(3)
	expectNobody(t, l, "ann")
	expectHolder(t, l, "bob", 2)
	expectDue(t, l, 19)
	expectDue(t, l, 40, 1, 2, 3) // who is Freed is not forgotten
	l.Forget(2)
	l.Forget(3)
	expectDue(t, l, 40, 1)
	expectHolder(t, l, "bob", 2) // who is forgotten is not Freed
	expectTake(t, l, "bob", 2, true)
	expectTake(t, l, "ann", 2, true)
	expectDue(t, l, 40, 1)
	l.Touch(2, 10, 5)
	expectHolder(t, l, "ann", 2)
	expectHolder(t, l, "bob", 2)
	expectTake(t, l, "ann", 3, false) // who has it when he is due has it yet
	expectDue(t, l, 15, 2)
	expectHolder(t, l, "ann", 2)
}

// P15.3

func TestNil(t *testing.T) {
	var l *lock.Locks
	for _, conn := range conns {
		for _, user := range users {
			expectTake(t, l, user, conn, false)
			expectNobody(t, l, user)
		}
		l.Touch(conn, 0, 0)
		l.Touch(conn, conn, conn)
		for _, now := range conns {
			expectDue(t, l, now)
		}
		l.Free(conn)
		l.Forget(conn)
	}
}

// One that New did not make has none, too.
func TestZeroValue(t *testing.T) {
	for _, first := range []func(l *lock.Locks){
		func(l *lock.Locks) { l.Free(1) },
		func(l *lock.Locks) { l.Forget(1) },
		func(l *lock.Locks) { expectNobody(t, l, users...) },
		func(l *lock.Locks) { expectDue(t, l, math.MaxInt) },
		func(l *lock.Locks) { l.Touch(1, math.MaxInt, 1) },
		func(l *lock.Locks) {},
	} {
		var l lock.Locks
		first(&l)
		expectTake(t, &l, "ann", 1, true)
		expectHolder(t, &l, "ann", 1)
		expectDue(t, &l, math.MaxInt)
		l.Touch(1, 1, 1)
		expectDue(t, &l, 2, 1)
	}
	for _, first := range []func(l *lock.Locks){
		func(l *lock.Locks) { l.Touch(1, 1, 1) },
		func(l *lock.Locks) { l.Touch(1, math.MinInt, math.MinInt) },
	} {
		var l lock.Locks
		first(&l)
		expectDue(t, &l, 2, 1)
		expectNobody(t, &l, "ann")
		expectTake(t, &l, "ann", 1, true)
	}
}

// plain is a list of what was taken and a list of what was touched.
type plain struct {
	had     []has
	touched []touch
}

type has struct {
	user string
	conn int
}

type touch struct{ conn, now, limit int }

func (p *plain) holders(user string) []int {
	var l []int
	for _, h := range p.had {
		if h.user == user {
			l = append(l, h.conn)
		}
	}
	return l
}

func (p *plain) take(user string, conn int) bool {
	l := p.holders(user)
	if len(l) == 0 {
		p.had = append(p.had, has{user, conn})
	}
	return len(l) == 0 || l[0] == conn
}

func (p *plain) free(conn int) {
	p.had = slices.DeleteFunc(p.had, func(h has) bool { return h.conn == conn })
}

func (p *plain) forget(conn int) {
	p.touched = slices.DeleteFunc(p.touched, func(x touch) bool { return x.conn == conn })
}

func (p *plain) touch(conn, now, limit int) {
	p.forget(conn)
	p.touched = append(p.touched, touch{conn, now, limit})
}

func (p *plain) due(now int) []int {
	var l []int
	for _, x := range p.touched {
		if x.now+x.limit <= now {
			l = append(l, x.conn)
		}
	}
	slices.Sort(l)
	return l
}

// expectSame wants of both the same answers, and of the plain one that a user has one holder at most.
func expectSame(t *testing.T, l *lock.Locks, p *plain, few []string, now int) {
	t.Helper()
	for _, user := range few {
		switch holders := p.holders(user); len(holders) {
		case 0:
			expectNobody(t, l, user)
		case 1:
			expectHolder(t, l, user, holders[0])
		default:
			t.Fatalf("the test's own: %q has %d", user, holders)
		}
	}
	expectDue(t, l, now, p.due(now)...)
}

func TestRandomCalls(t *testing.T) {
	for seed := range 200 {
		r := rand.New(rand.NewSource(int64(seed)))
		l, p := lock.New(), &plain{}
		few := users[:1+r.Intn(6)]
		some := conns[:1+r.Intn(len(conns))]
		step := []int{1, 4, 1 << 20, most / 2}[r.Intn(4)]
		for range 400 {
			user, conn := few[r.Intn(len(few))], some[r.Intn(len(some))]
			switch r.Intn(6) {
			case 0, 1:
				expectTake(t, l, user, conn, p.take(user, conn))
			case 2:
				l.Free(conn)
				p.free(conn)
			case 3, 4:
				now, limit := r.Intn(3)*step, r.Intn(3)*step
				l.Touch(conn, now, limit)
				p.touch(conn, now, limit)
			case 5:
				l.Forget(conn)
				p.forget(conn)
			}
			expectSame(t, l, p, few, r.Intn(5)*step+r.Intn(3)-1)
		}
	}
}

// What holds everywhere

// What Due answers may be written to, its spare room too, and stays what it is.
func TestAnswersAreNewMemory(t *testing.T) {
	l := lock.New()
	for conn := range 9 {
		l.Touch(conn, 10, conn)
	}
	want := []int{0, 1, 2, 3, 4}
	first, second := l.Due(14), l.Due(14)
	room := first[:cap(first)]
	for i := range room {
		room[i] = -9
	}
	if !slices.Equal(second, want) {
		t.Errorf("a second answer became %d", second)
	}
	expectDue(t, l, 14, want...)
	expectDue(t, l, 99, 0, 1, 2, 3, 4, 5, 6, 7, 8)
	l.Forget(3)
	l.Touch(1, 0, 0)
	l.Touch(7, 0, 0)
	if !slices.Equal(second, want) {
		t.Errorf("an answer did not stay: %d", second)
	}
}

// What is asked changes nothing.
func TestAskingChangesNothing(t *testing.T) {
	l := lock.New()
	expectTake(t, l, "ann", 3, true)
	l.Touch(3, 10, 10)
	l.Touch(4, 10, 11)
	for range 3 {
		for _, now := range conns {
			l.Due(now)
		}
		for _, user := range users {
			l.Holder(user)
		}
		expectHolder(t, l, "ann", 3)
		expectNobody(t, l, "", "bob")
		expectDue(t, l, 19)
		expectDue(t, l, 20, 3)
		expectDue(t, l, 21, 3, 4)
	}
	expectTake(t, l, "bob", 4, true) // who was asked for is not had
}

// The text that a user is handed in as is not kept.
func TestUsersAreNotKept(t *testing.T) {
	l := lock.New()
	b := []byte("ann")
	expectTake(t, l, unsafe.String(&b[0], len(b)), 1, true)
	copy(b, "bob")
	expectHolder(t, l, "ann", 1)
	expectNobody(t, l, "bob")
	expectTake(t, l, "ann", 2, false)
	expectTake(t, l, unsafe.String(&b[0], len(b)), 2, true)
	copy(b, "ann")
	expectTake(t, l, unsafe.String(&b[0], len(b)), 1, true) // what it has already
	copy(b, "cat")
	expectHolder(t, l, "ann", 1)
	expectHolder(t, l, "bob", 2)
	expectNobody(t, l, "cat")
}

// Two of them have nothing in common.
func TestEachByItself(t *testing.T) {
	a, b := lock.New(), lock.New()
	expectTake(t, a, "ann", 1, true)
	a.Touch(1, 0, 0)
	expectNobody(t, b, "ann")
	expectDue(t, b, 0)
	expectTake(t, b, "ann", 2, true)
	b.Touch(2, 0, 0)
	a.Free(2)
	b.Free(1)
	a.Forget(2)
	b.Forget(1)
	expectHolder(t, a, "ann", 1)
	expectHolder(t, b, "ann", 2)
	expectDue(t, a, 0, 1)
	expectDue(t, b, 0, 2)
}

// A copy, if it alone is used from there on, goes on as the first one would.
func TestCopy(t *testing.T) {
	l := lock.New()
	expectTake(t, l, "ann", 1, true)
	l.Touch(1, 1, 1)
	other := *l
	expectHolder(t, &other, "ann", 1)
	expectTake(t, &other, "bob", 2, true)
	expectHolder(t, &other, "bob", 2)
	expectDue(t, &other, 2, 1)
	other.Free(1)
	other.Forget(1)
	expectNobody(t, &other, "ann")
	expectDue(t, &other, 2)
}
