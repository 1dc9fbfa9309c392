package tests

import (
	"runtime"
	"strconv"
	"sync"
	"testing"
	"time"

	"loop.example/g00274/impl"
)

// tellAll tells what all functions of the chapter answer.
func tellAll(a groupArgs) map[string]string {
	told := map[string]string{}
	for name, call := range groupCalls() {
		told[name] = call(a).tell()
	}
	return told
}

func wantTold(t *testing.T, what string, a groupArgs, want map[string]string) {
	t.Helper()
	for name, now := range tellAll(a) {
		if now != want[name] {
			t.Errorf("%s: %s is %s, not %s", what, name, now, want[name])
		}
	}
}

// Nothing is kept from call to call.
func TestPromise19GroupsAnswerTheSameAgain(t *testing.T) {
	all := someGroupArgs()
	for k, a := range all {
		first := tellAll(a)
		tellAll(all[(k+7)%len(all)])
		wantTold(t, "asked again", a, first)
	}
}

// However few or many run at once, the same is answered, each time.
func TestPromise19WhateverTheWorkersDo(t *testing.T) {
	before := runtime.GOMAXPROCS(0)
	defer runtime.GOMAXPROCS(before)
	args := []groupArgs{
		{busyGroup(), learnAt(0, 2), nil, nineOps(), 4},
		{placeWith(11, noteWith(prepare(1, 2, 0))), learnAt(0, 2), nil, nil, 4},
		{placeWith(0, noteWith(impl.Note{})), save(0), choosingSteps(3, 1, 0), nineOps(), 3},
	}
	for _, a := range args {
		runtime.GOMAXPROCS(before)
		first := tellAll(a)
		for _, many := range []int{1, 2, 3, 16} {
			runtime.GOMAXPROCS(many)
			for range 25 {
				wantTold(t, strconv.Itoa(many)+" at once", a, first)
			}
		}
	}
}

// One group may be asked by many at the same time, as nothing is written into it.
func TestPromise19ManyAskAtTheSameTime(t *testing.T) {
	a := groupArgs{busyGroup(), learnAt(0, 2), choosingSteps(3, 1, 0), nineOps(), 3}
	first := tellAll(a)
	var all sync.WaitGroup
	for range 16 {
		all.Go(func() {
			for range 10 {
				wantTold(t, "by many", a, first)
			}
		})
	}
	all.Wait()
}

// No worker is left behind. One that has told all may take a moment to end: so it is waited for.
func TestPromise19NoWorkerIsLeft(t *testing.T) {
	before := runtime.NumGoroutine()
	for range 100 {
		tellAll(groupArgs{busyGroup(), takeAt(8, 0), choosingSteps(3, 1, 0), nineOps(), 3})
		tellAll(groupArgs{group: placeWith(4, impl.Paxos{Voters: make([]impl.Voter, 5), Askers: make([]impl.Asker, 3), Notes: make([]impl.Note, 1)})})
	}
	for range 500 {
		if runtime.NumGoroutine() <= before {
			return
		}
		time.Sleep(10 * time.Millisecond)
	}
	t.Errorf("%d run behind the calls, %d ran ahead of them", runtime.NumGoroutine(), before)
}
