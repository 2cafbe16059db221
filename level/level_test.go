package level_test

import (
	"fmt"
	"math"
	"math/rand"
	"slices"
	"testing"

	"escapement/api"
	"escapement/level"
)

// resources are those that there are, and some that there are not, far beyond either end too.
var resources = []int{0, 1, 2, 3, 4, 5, 6, 7, -1, 8, 9, -8, 31, 32, 63, 64, 65, -64, 1 << 40, math.MinInt, math.MaxInt, math.MinInt + 1}

// task is one with that Deadline, that uses these.
func task(deadline int, uses ...int) api.Task {
	t := api.Task{Deadline: deadline}
	for _, r := range uses {
		t.Locals |= 1 << r
	}
	return t
}

// example is the chapter's three tasks.
func example() []api.Task {
	return []api.Task{task(5, 0), task(9, 0, 1), task(9, 2)}
}

// places are those of so many tasks, and some where there is none.
func places(many int) []int {
	l := []int{-1, many, many + 1, -many - 1, 1 << 40, math.MinInt, math.MaxInt}
	for i := range many {
		l = append(l, i)
	}
	return l
}

// modelLevel is Level, as the chapter says it.
func modelLevel(tasks []api.Task, i int) int {
	if i < 0 || i >= len(tasks) {
		return 0
	}
	longer := 0
	for j := range tasks {
		if tasks[j].Deadline > tasks[i].Deadline {
			longer++
		}
	}
	return 1 + longer
}

// modelUses is Uses, as the chapter says it.
func modelUses(tasks []api.Task, i, resource int) bool {
	if i < 0 || i >= len(tasks) {
		return false
	}
	for r, bit := range []int{1, 2, 4, 8, 16, 32, 64, 128} {
		if r == resource {
			return tasks[i].Locals&bit != 0
		}
	}
	return false
}

// modelCeiling is Ceiling, as the chapter says it.
func modelCeiling(tasks []api.Task, resource int) int {
	levels := []int{0}
	for i := range tasks {
		if modelUses(tasks, i, resource) {
			levels = append(levels, modelLevel(tasks, i))
		}
	}
	return slices.Max(levels)
}

// modelHighest is Highest, as the chapter says it.
func modelHighest(tasks []api.Task, resources ...int) int {
	ceilings := []int{0}
	for _, r := range resources {
		ceilings = append(ceilings, modelCeiling(tasks, r))
	}
	return slices.Max(ceilings)
}

// wantModel holds all calls for some tasks against the chapter's words.
func wantModel(t *testing.T, tasks []api.Task) {
	t.Helper()
	for _, i := range places(len(tasks)) {
		if got, want := level.Level(tasks, i), modelLevel(tasks, i); got != want {
			t.Errorf("%+v: Level(%d): %d, not %d", tasks, i, got, want)
		}
		for _, r := range resources {
			if got, want := level.Uses(tasks, i, r), modelUses(tasks, i, r); got != want {
				t.Errorf("%+v: Uses(%d, %d): %t, not %t", tasks, i, r, got, want)
			}
		}
	}
	for _, r := range resources {
		want := modelCeiling(tasks, r)
		if got := level.Ceiling(tasks, r); got != want {
			t.Errorf("%+v: Ceiling(%d): %d, not %d", tasks, r, got, want)
		}
		wantHighest(t, tasks, want, r)
	}
}

// wantHighest holds one call of Highest against what it should answer.
func wantHighest(t *testing.T, tasks []api.Task, want int, resources ...int) {
	t.Helper()
	if got := level.Highest(tasks, resources...); got != want {
		t.Errorf("%+v: Highest(%v): %d, not %d", tasks, resources, got, want)
	}
}

// P6.1, P6.2: the chapter's examples.
func TestExamples(t *testing.T) {
	for i, want := range []int{3, 1, 1, 0} {
		if got := level.Level(example(), i); got != want {
			t.Errorf("Level(%d): %d, not %d", i, got, want)
		}
	}
	for r, want := range map[int]int{0: 3, 1: 1, 3: 0, 8: 0} {
		if got := level.Ceiling(example(), r); got != want {
			t.Errorf("Ceiling(%d): %d, not %d", r, got, want)
		}
	}
	wantHighest(t, example(), 3, 1, 0)
}

// P6.1: levels of no task, of one, of several, some of which have the same Deadline, and of more than a partition may have.
func TestLevel(t *testing.T) {
	for _, row := range []struct{ deadlines, want []int }{
		{nil, nil},
		{[]int{1}, []int{1}},
		{[]int{64}, []int{1}},
		{[]int{1, 2}, []int{2, 1}},
		{[]int{2, 1}, []int{1, 2}},
		{[]int{7, 7}, []int{1, 1}},
		{[]int{7, 7, 7, 7}, []int{1, 1, 1, 1}},
		{[]int{7, 9, 7, 9}, []int{3, 1, 3, 1}},
		{[]int{9, 7, 7, 7}, []int{1, 2, 2, 2}},
		{[]int{9, 9, 9, 7}, []int{1, 1, 1, 4}},
		{[]int{1, 2, 3, 4}, []int{4, 3, 2, 1}},
		{[]int{4, 2, 3, 2, 1, 64}, []int{2, 4, 3, 4, 6, 1}},
		{[]int{0, 1}, []int{2, 1}},
		{[]int{-1, 0, 1}, []int{3, 2, 1}},
		{[]int{math.MinInt, math.MaxInt}, []int{2, 1}},
		{[]int{math.MaxInt, 0, math.MinInt, math.MinInt}, []int{1, 2, 3, 3}},
		{[]int{math.MinInt, math.MinInt + 1, math.MaxInt - 1, math.MaxInt}, []int{4, 3, 2, 1}},
	} {
		var tasks []api.Task
		for _, d := range row.deadlines {
			tasks = append(tasks, task(d, 3))
		}
		for i, want := range row.want {
			if got := level.Level(tasks, i); got != want {
				t.Errorf("Deadlines %v: Level(%d): %d, not %d", row.deadlines, i, got, want)
			}
		}
		wantModel(t, tasks)
	}
}

// P6.1: a task that there is not has no level, and uses nothing.
func TestNoTask(t *testing.T) {
	for many := range 6 {
		tasks := slices.Repeat([]api.Task{task(5, 0, 1, 2, 3, 4, 5, 6, 7)}, many)
		for _, i := range []int{-1, many, many + 1, -many - 1, 1 << 40, math.MinInt, math.MaxInt} {
			if got := level.Level(tasks, i); got != 0 {
				t.Errorf("%d tasks: Level(%d): %d", many, i, got)
			}
			for _, r := range resources {
				if level.Uses(tasks, i, r) {
					t.Errorf("%d tasks: Uses(%d, %d)", many, i, r)
				}
			}
		}
	}
}

// P6.1: tasks that lie behind a list's end, in its spare room, are none.
func TestSpareTasks(t *testing.T) {
	tasks := []api.Task{task(5, 0), task(3, 0), task(9, 1)}[:1]
	if got := level.Level(tasks, 0); got != 1 {
		t.Errorf("Level(0): %d", got)
	}
	if got := level.Level(tasks, 1); got != 0 || level.Uses(tasks, 1, 0) {
		t.Errorf("the task behind the end: level %d", got)
	}
	if a, b := level.Ceiling(tasks, 0), level.Ceiling(tasks, 1); a != 1 || b != 0 {
		t.Errorf("ceilings %d, %d", a, b)
	}
}

// P6.1, P6.2: each bit alone is one resource's; other bits are nobody's.
func TestBits(t *testing.T) {
	for bit := range 64 {
		tasks := []api.Task{{Deadline: 5, Locals: 1 << bit}}
		for _, r := range resources {
			is, ceiling := r == bit && r < 8, 0
			if is {
				ceiling = 1
			}
			if got := level.Uses(tasks, 0, r); got != is {
				t.Errorf("Locals bit %d: Uses(0, %d): %t", bit, r, got)
			}
			if got := level.Ceiling(tasks, r); got != ceiling {
				t.Errorf("Locals bit %d: Ceiling(%d): %d", bit, r, got)
			}
			wantHighest(t, tasks, ceiling, r)
		}
	}
	for _, locals := range []int{0, 1, 0xFF, 0x55, 0xAA, 0x100, 0xFF00, 0x1FF, ^0xFF, -1, -2, math.MinInt, math.MaxInt} {
		wantModel(t, []api.Task{{Deadline: 5, Locals: locals}, {Deadline: 4, Locals: locals << 1}})
	}
}

// P6.1, P6.2: what a task uses is told by Locals, its level by Deadline, and neither by anything else.
func TestOtherFields(t *testing.T) {
	for _, other := range []api.Task{{}, {Period: 64, Bound: 9, Local: 255, Global: 4, Long: 9, Locks: 9}, {Period: -1, Bound: -1, Local: -1, Global: -1, Long: -1, Locks: -1}} {
		tasks := []api.Task{other, other, {Deadline: 7, Locals: 2}}
		tasks[0].Deadline, tasks[0].Locals = 6, 1
		tasks[1].Deadline = 8
		for i, want := range []int{3, 1, 2} {
			if got := level.Level(tasks, i); got != want {
				t.Errorf("%+v: Level(%d): %d, not %d", tasks, i, got, want)
			}
		}
		wantModel(t, tasks)
	}
}

// P6.2: a ceiling is the highest level of those that use the resource, wherever these stand.
func TestCeiling(t *testing.T) {
	for _, row := range []struct {
		what           string
		tasks          []api.Task
		resource, want int
	}{
		{"no task", nil, 0, 0},
		{"one", []api.Task{task(5, 3)}, 3, 1},
		{"nobody uses it", []api.Task{task(5, 3), task(6, 1)}, 2, 0},
		{"the first one uses it", []api.Task{task(5, 0), task(6), task(7)}, 0, 3},
		{"the last one uses it", []api.Task{task(5), task(6), task(7, 7)}, 7, 1},
		{"the shortest stands last", []api.Task{task(7, 0), task(6, 0), task(5, 0)}, 0, 3},
		{"the shortest stands first", []api.Task{task(5, 0), task(6, 0), task(7, 0)}, 0, 3},
		{"the shortest stands between", []api.Task{task(6, 0), task(5, 0), task(7, 0)}, 0, 3},
		{"the shortest uses another", []api.Task{task(5, 1), task(6, 0), task(7, 0), task(8, 0)}, 0, 3},
		{"the same ones", []api.Task{task(6, 0), task(6, 0), task(6), task(6, 0)}, 0, 1},
		{"five", []api.Task{task(1, 0), task(2, 0), task(3, 5), task(4, 5), task(5)}, 5, 3},
		{"Deadline 0", []api.Task{task(0, 0), task(1)}, 0, 2},
		{"less than 0", []api.Task{task(-3, 0), task(-4), task(-2)}, 0, 2},
		{"the least int", []api.Task{task(math.MinInt, 0), task(math.MaxInt, 1), task(0)}, 0, 3},
		{"the greatest int", []api.Task{task(math.MinInt, 0), task(math.MaxInt, 1), task(0)}, 1, 1},
		{"a resource -1", []api.Task{{Deadline: 5, Locals: -1}}, -1, 0},
		{"a resource 8", []api.Task{{Deadline: 5, Locals: -1}}, 8, 0},
		{"far below", []api.Task{{Deadline: 5, Locals: -1}}, math.MinInt, 0},
		{"far above", []api.Task{{Deadline: 5, Locals: -1}}, math.MaxInt, 0},
	} {
		if got := level.Ceiling(row.tasks, row.resource); got != row.want {
			t.Errorf("%s: Ceiling(%d): %d, not %d", row.what, row.resource, got, row.want)
		}
		wantModel(t, row.tasks)
	}
}

// P6.2: the highest ceiling of no resource, of one, of several, of the same one twice, and of some that there are not.
func TestHighest(t *testing.T) {
	tasks := []api.Task{task(9, 0), task(7, 0, 1), task(8, 2), task(5, 7)}
	for _, row := range []struct {
		want      int
		resources []int
	}{
		{0, nil},
		{0, []int{}},
		{3, []int{0}},
		{3, []int{1}},
		{2, []int{2}},
		{4, []int{7}},
		{0, []int{3}},
		{2, []int{2, 2}},
		{3, []int{0, 1}},
		{3, []int{2, 0}},
		{3, []int{0, 2}},
		{4, []int{7, 2, 3}},
		{4, []int{3, 2, 7}},
		{4, []int{0, 1, 2, 3, 4, 5, 6, 7}},
		{0, []int{3, 4, 5, 6}},
		{0, []int{-1}},
		{0, []int{8}},
		{0, []int{8, -1, math.MinInt, math.MaxInt}},
		{2, []int{-1, 2, 8}},
		{2, []int{math.MaxInt, 3, 2, math.MinInt}},
		{2, slices.Repeat([]int{2, 8}, 1000)},
	} {
		wantHighest(t, tasks, row.want, row.resources...)
		wantHighest(t, nil, 0, row.resources...)
		wantHighest(t, []api.Task{task(5), task(6)}, 0, row.resources...)
	}
}

// P6.3: what is handed in is only read, its spare room too.
func TestOnlyRead(t *testing.T) {
	tasks := append(example(), task(2, 0), task(1, 1, 2))
	list := []int{1, 0, 2, 0, 8, -1, 5, 4}
	was, wasList := slices.Clone(tasks), slices.Clone(list)
	for range 2 {
		level.Level(tasks[:3], 0)
		level.Uses(tasks[:3], 1, 1)
		level.Ceiling(tasks[:3], 0)
		level.Highest(tasks[:3], list[:4]...)
		if got := level.Highest(tasks[:3], list[:1]...); got != 1 {
			t.Errorf("Highest: %d", got)
		}
	}
	if !slices.Equal(tasks, was) {
		t.Errorf("tasks are changed: %+v", tasks)
	}
	if !slices.Equal(list, wasList) {
		t.Errorf("resources are changed: %v", list)
	}
}

// deadlines are those that a configuration has, and others.
var deadlines = []int{1, 2, 3, 5, 8, 63, 64, 65, 0, -1, -64, 1 << 40, math.MinInt, math.MinInt + 1, math.MaxInt - 1, math.MaxInt}

// some are tasks of any kind.
func some(random *rand.Rand) []api.Task {
	var tasks []api.Task
	few := 1 + random.Intn(len(deadlines))
	for range random.Intn(10) {
		t := api.Task{Deadline: deadlines[random.Intn(few)], Locals: random.Intn(256)}
		switch random.Intn(4) {
		case 0:
			t.Locals = 0
		case 1:
			t.Locals = 1 << random.Intn(64)
		case 2:
			t.Locals = int(random.Uint64())
		}
		tasks = append(tasks, t)
	}
	return tasks
}

// P6.1, P6.2: any tasks, against the chapter's words.
func TestAgainstModel(t *testing.T) {
	random := rand.New(rand.NewSource(61))
	for range 3000 {
		tasks := some(random)
		wantModel(t, tasks)
		for range 5 {
			var l []int
			for range random.Intn(5) {
				l = append(l, resources[random.Intn(len(resources))])
			}
			wantHighest(t, tasks, modelHighest(tasks, l...), l...)
		}
		if t.Failed() {
			return
		}
	}
}

// P6.4: levels are from 1 to how many tasks there are, higher with a shorter Deadline, the same with the same one.
func TestLevelsByDeadline(t *testing.T) {
	random := rand.New(rand.NewSource(64))
	for range 3000 {
		tasks := some(random)
		for i, a := range tasks {
			one := level.Level(tasks, i)
			if one < 1 || one > len(tasks) {
				t.Fatalf("%+v: Level(%d): %d", tasks, i, one)
			}
			for j, b := range tasks {
				other := level.Level(tasks, j)
				if (a.Deadline < b.Deadline) != (one > other) || (a.Deadline == b.Deadline) != (one == other) {
					t.Fatalf("%+v: levels of %d and %d: %d and %d", tasks, i, j, one, other)
				}
			}
		}
	}
}

// P6.5: a task's level is at most the ceiling of each resource that it uses, and so at most the highest of these.
func TestLevelBelowCeiling(t *testing.T) {
	random := rand.New(rand.NewSource(65))
	for range 3000 {
		tasks := some(random)
		for i := range tasks {
			var used []int
			own := level.Level(tasks, i)
			for r := range api.MaxLocals {
				if !level.Uses(tasks, i, r) {
					continue
				}
				used = append(used, r)
				if got := level.Ceiling(tasks, r); got < own {
					t.Fatalf("%+v: task %d has the level %d, resource %d the ceiling %d", tasks, i, own, r, got)
				}
			}
			if got := level.Highest(tasks, used...); len(used) > 0 && got < own {
				t.Fatalf("%+v: task %d has the level %d, all of %v %d", tasks, i, own, used, got)
			}
		}
	}
}

// R1: many tasks, and many resources, are answered as a few are.
func TestMany(t *testing.T) {
	tasks := make([]api.Task, 5000)
	for i := range tasks {
		tasks[i] = task(i, 7)
	}
	for _, i := range []int{0, 1, 2500, 4999} {
		if got := level.Level(tasks, i); got != 5000-i {
			t.Errorf("Level(%d): %d", i, got)
		}
	}
	if got := level.Ceiling(tasks, 7); got != 5000 {
		t.Errorf("Ceiling(7): %d", got)
	}
	wantHighest(t, tasks, 5000, slices.Repeat([]int{7, 8, 0}, 100)...)
}

// R2: what is answered hangs on what is handed in alone: calls in between count for nothing.
func TestNothingKept(t *testing.T) {
	want := fmt.Sprint(level.Level(example(), 0), level.Ceiling(example(), 0), level.Highest(example(), 1, 2))
	for _, between := range [][]api.Task{nil, {task(1, 0, 1, 2)}, {task(99)}} {
		level.Level(between, 0)
		level.Ceiling(between, 0)
		level.Highest(between, 0, 1, 2)
		got := fmt.Sprint(level.Level(example(), 0), level.Ceiling(example(), 0), level.Highest(example(), 1, 2))
		if got != want {
			t.Errorf("then %s, not %s", got, want)
		}
	}
}
