package pdu_test

import (
	"bytes"
	"errors"
	"fmt"
	"io"
	"math"
	"slices"
	"testing"

	"citadel/api"
	"citadel/pdu"
)

// around is an error that wraps another one.
type around struct{ inner error }

func (a around) Error() string { return "around" }
func (a around) Unwrap() error { return a.inner }

// pointed is likewise one, by a pointer, which may be nil.
type pointed struct{ inner error }

func (p *pointed) Error() string { return "pointed" }
func (p *pointed) Unwrap() error { return p.inner }

// rows is an error whose values can't be held against one another.
type rows []error

func (r rows) Error() string   { return "rows" }
func (r rows) Unwrap() []error { return r }

// alike is an error that says itself what it is.
type alike struct{ kind error }

func (a alike) Error() string        { return "alike" }
func (a alike) Is(target error) bool { return target == a.kind }

// angry is an error whose methods panic.
type angry struct{}

func (angry) Error() string { panic("Error") }
func (angry) Is(error) bool { panic("Is") }
func (angry) Unwrap() error { panic("Unwrap") }

// number is an error that is a number, but none of api's.
type number int

func (number) Error() string { return "busy" }

// P17.1: the status of no error, and of each one that has a name.
func TestStatuses(t *testing.T) {
	if s := pdu.Status(nil); s != 0 {
		t.Errorf("no error: %d", s)
	}
	for i, x := range named {
		if int(x.err) != i+1 || x.err.Error() != x.word {
			t.Errorf("%d: %v", i, x.err)
		}
		if s := pdu.Status(x.err); s != x.status {
			t.Errorf("%v: %d, want %d", x.err, s, x.status)
		}
	}
	if len(named) != 13 {
		t.Error(len(named))
	}
}

// P17.1: any other error's status, also of numbers without a name, and of errors that look like others.
func TestStatusOfOthers(t *testing.T) {
	for n := -300; n <= 300; n++ {
		if n >= 1 && n <= 13 {
			continue
		}
		if s := pdu.Status(api.Errno(n)); s != 2 {
			t.Errorf("error %d: %d", n, s)
		}
	}
	var nowhere *pointed
	var noRows rows
	for i, err := range []error{
		api.Errno(math.MaxInt), api.Errno(math.MinInt), api.Errno(1<<32 + 8), api.Errno(1<<32 + 9),
		errors.New("busy"), errors.New("conflict"), errors.New("tamper"), errors.New(""), io.EOF,
		number(0), number(6), number(8), number(9), &pointed{}, nowhere, noRows, rows{}, rows{nil}, rows{io.EOF, nil},
		around{}, around{io.EOF}, around{around{}}, around{nowhere}, alike{}, alike{io.EOF}, alike{api.ErrRange},
		angry{}, around{angry{}}, &pointed{angry{}}, rows{angry{}}, errors.Join(angry{}, angry{}),
	} {
		if s := pdu.Status(err); s != 2 {
			t.Errorf("place %d, %T: %d", i, err, s)
		}
	}
}

// P17.1: errors that wrap one have its status, in all ways.
func TestStatusOfWrapped(t *testing.T) {
	for _, x := range named {
		deep := error(x.err)
		for range 1000 {
			deep = around{deep}
		}
		for i, err := range []error{
			around{x.err}, &pointed{x.err}, around{&pointed{around{x.err}}}, rows{x.err}, rows{nil, io.EOF, x.err}, rows{rows{}, rows{around{x.err}}},
			errors.Join(x.err), errors.Join(io.EOF, x.err), fmt.Errorf("wrapped: %w", x.err), fmt.Errorf("%w, %w", io.EOF, x.err), alike{x.err}, deep,
		} {
			if s := pdu.Status(err); s != x.status {
				t.Errorf("%v, wrapped in way %d: %d, want %d", x.err, i, s, x.status)
			}
		}
		if s := pdu.Status(fmt.Errorf("told: %v", x.err)); s != 2 {
			t.Errorf("%v, told alone: %d", x.err, s)
		}
	}
}

// P17.1: of errors that wrap several, that one counts that is named first.
func TestStatusOfSeveral(t *testing.T) {
	first := []api.Errno{api.ErrBusy, api.ErrConflict, api.ErrTamper, api.ErrRange}
	status := []int{8, 24, 3, 2}
	for i, a := range first {
		for k, b := range first {
			want := status[min(i, k)]
			for _, err := range []error{errors.Join(a, b), rows{around{b}, a}, fmt.Errorf("%w, %w", a, b)} {
				if s := pdu.Status(err); s != want {
					t.Errorf("%v and %v: %d, want %d", a, b, s, want)
				}
			}
		}
	}
}

// P17.1: a frame that rejects, of all codes, also of such as aren't in form.
func TestReject(t *testing.T) {
	for _, code := range append([]int{0, 1, 10, 12, 13, 254, 255}, badCodes...) {
		f := pdu.Reject(code)
		if !plainSame(f, api.Frame{Kind: 7, Code: code}) {
			t.Errorf("%d: %s", code, brief(f))
		}
		if _, err := pdu.Encode(f); (err == nil) != plainForm(f) {
			t.Errorf("%d: %v", code, err)
		}
	}
	if b, err := pdu.Encode(pdu.Reject(10)); !bytes.Equal(b, []byte{7, 0, 0, 0, 0, 10, 0, 0}) || err != nil {
		t.Errorf("% x, %v", b, err)
	}
}

// P17.1: a frame that replies, without an error: the data is all there, in form or not.
func TestReplyWithoutError(t *testing.T) {
	for _, n := range slices.Concat(goodNumbers, badNumbers) {
		for _, size := range []int{0, 1, 128, 255, 256, 4095, 4096, 4097, 65536} {
			want := api.Frame{Kind: 6, N: n, Data: data(size)}
			f := pdu.Reply(n, data(size), nil)
			if !plainSame(f, want) {
				t.Errorf("%s: %s", brief(want), brief(f))
			}
			if _, err := pdu.Encode(f); (err == nil) != plainForm(want) {
				t.Errorf("%s: %v", brief(want), err)
			}
		}
		for _, none := range [][]byte{nil, {}, make([]byte, 0, 9)} {
			if f := pdu.Reply(n, none, nil); !plainSame(f, api.Frame{Kind: 6, N: n}) {
				t.Errorf("%d, no data: %s", n, brief(f))
			}
		}
	}
}

// P17.1: a frame that replies, with an error: its status, and no data, whatever was handed in.
func TestReplyWithError(t *testing.T) {
	var nowhere *pointed
	for _, n := range slices.Concat(goodNumbers, badNumbers) {
		for _, size := range []int{0, 1, 128, 4096, 4097} {
			reply := func(err error, status int) {
				t.Helper()
				f := pdu.Reply(n, data(size), err)
				if f.Data != nil || !plainSame(f, api.Frame{Kind: 6, N: n, Code: status}) {
					t.Errorf("%d, %d bytes, status %d: %s", n, size, status, brief(f))
				}
			}
			for _, x := range named {
				reply(x.err, x.status)
				reply(around{x.err}, x.status)
			}
			reply(api.Errno(0), 2)
			reply(api.Errno(99), 2)
			reply(io.EOF, 2)
			reply(nowhere, 2)
			reply(angry{}, 2)
		}
	}
}
