package store_test

import (
	"errors"
	"fmt"
	"io"
	"math"
	"strings"
	"testing"

	"cairn/api"
	"cairn/store"
)

// P24.2: the text and what it unwraps to.
func TestTextOfATrouble(t *testing.T) {
	any256 := make([]byte, 256)
	for i := range any256 {
		any256[i] = byte(i)
	}
	for _, op := range []string{"create", "open", "put", "get", "range", "stat", "delete", "list", "page", "heal", "close", "", "a b", "put:"} {
		for _, key := range []string{"", "a", " ", ":", "a b", "\x00", "\xff\n", "ä", "%d%s", string(any256), strings.Repeat("k", 1<<16)} {
			for _, number := range []api.Errno{0, 1, 2, 90, 160, 190, 200, 240, -1, -240, math.MaxInt, math.MinInt} {
				trouble := &store.Trouble{Op: op, Key: key, Err: number}
				want := op
				if len(key) > 0 {
					want = op + " " + key
				}
				want = fmt.Sprintf("%s: error %d", want, int(number))
				fatalUnless(t, trouble.Error() == want, "%q, not %q", trouble.Error(), want)
				is := trouble.Unwrap() == error(number) && errors.Is(trouble, number) && store.Code(trouble) == number
				fatalUnless(t, is, "%v unwraps to %v, its Code is %d", trouble, trouble.Unwrap(), store.Code(trouble))
				fatalUnless(t, *trouble == store.Trouble{Op: op, Key: key, Err: number}, "it became %v", *trouble)
			}
		}
	}
	zero := &store.Trouble{}
	fatalUnless(t, zero.Error() == ": error 0" && zero.Unwrap() == error(api.OK), "%q, %v", zero.Error(), zero.Unwrap())
}

// P24.2: a Trouble that is not there is an empty text, and unwraps to nothing.
func TestATroubleThatIsNotThere(t *testing.T) {
	var none *store.Trouble
	fatalUnless(t, none.Error() == "" && none.Unwrap() == nil, "%q, %v", none.Error(), none.Unwrap())
	for _, err := range []error{none, wrap{none}, errors.Join(none, none), fmt.Errorf("it: %w", none)} {
		fatalUnless(t, store.Code(err) == api.ErrArg && !store.Lost(err), "Code %d, Lost %v", store.Code(err), store.Lost(err))
	}
	fatalUnless(t, store.Code(errors.Join(none, api.ErrDown)) == api.ErrDown, "the one behind it is not found")
}

// wrap is an error around another one.
type wrap struct{ in error }

func (w wrap) Error() string { return "wrap" }

func (w wrap) Unwrap() error { return w.in }

// deaf is an error around another one that does not say so.
type deaf struct{ in error }

func (d deaf) Error() string { return d.in.Error() }

// alias is an error that tells in its own way which ones it is.
type alias struct{ of api.Errno }

func (a alias) Error() string { return "alias" }

func (a alias) Is(err error) bool { return err == a.of }

func (a alias) As(target any) bool {
	p, is := target.(*api.Errno)
	if is {
		*p = a.of
	}
	return is
}

// lists is an error whose type can't be compared.
type lists []error

func (l lists) Error() string { return "lists" }

func (l lists) Unwrap() []error { return l }

// allNumbers are all numbers up to 400, and some others.
func allNumbers() []api.Errno {
	all := []api.Errno{-1, -122, math.MaxInt, math.MinInt, math.MaxInt32, 1 << 40}
	for i := range api.Errno(400) {
		all = append(all, i)
	}
	return all
}

// isLost is the chapter's list.
func isLost(number api.Errno) bool { return number == 122 || number == 160 || number == 240 }

// P24.3: of all numbers, however deep they are wrapped.
func TestCodeAndLost(t *testing.T) {
	for _, number := range allNumbers() {
		deep := error(number)
		for range 1000 {
			deep = wrap{deep}
		}
		for _, err := range []error{
			number, deep, wrap{number}, &wrap{number}, fmt.Errorf("it: %w", number), fmt.Errorf("%w %w", io.EOF, number), alias{number}, wrap{alias{number}},
			&store.Trouble{Op: "get", Key: "k", Err: number}, wrap{&store.Trouble{Err: number}}, errors.Join(nil, number), errors.Join(io.EOF, wrap{number}),
			lists{io.EOF, lists{}, lists{nil, number}}, wrap{lists{errors.Join(io.EOF), deep}},
		} {
			fatalUnless(t, store.Code(err) == number, "Code of %T %v = %d, not %d", err, err, store.Code(err), number)
			fatalUnless(t, store.Lost(err) == isLost(number), "Lost of %T %v = %v", err, err, store.Lost(err))
		}
		none := deaf{number}
		fatalUnless(t, store.Code(none) == api.ErrArg && !store.Lost(none), "%v: Code %d, Lost %v", none, store.Code(none), store.Lost(none))
	}
}

// P24.3: none, errors without a number, and errors with several: Code is the first that errors.As finds, Lost is asked of all.
func TestCodeAndLostOfOthers(t *testing.T) {
	for _, x := range []struct {
		err  error
		code api.Errno
		lost bool
	}{
		{nil, api.OK, false},
		{api.OK, api.OK, false},
		{errors.New("error 122"), api.ErrArg, false},
		{io.EOF, api.ErrArg, false},
		{wrap{nil}, api.ErrArg, false},
		{&wrap{nil}, api.ErrArg, false},
		{lists(nil), api.ErrArg, false},
		{lists{nil, nil}, api.ErrArg, false},
		{(*api.Errno)(nil), api.ErrArg, false},
		{errors.Join(api.ErrNotFound, api.ErrDown), api.ErrNotFound, true},
		{errors.Join(api.ErrClosed, api.ErrNotFound), api.ErrClosed, true},
		{errors.Join(api.ErrIO, wrap{errors.Join(io.EOF, api.ErrStopped)}), api.ErrIO, true},
		{errors.Join(api.ErrIO, api.ErrQuorum), api.ErrIO, false},
		{lists{wrap{io.EOF}, &store.Trouble{Err: api.ErrExists}, api.ErrDown}, api.ErrExists, true},
	} {
		fatalUnless(t, store.Code(x.err) == x.code && store.Lost(x.err) == x.lost, "%v: Code %d, Lost %v", x.err, store.Code(x.err), store.Lost(x.err))
	}
	pointer := new(api.Errno)
	*pointer = api.ErrDown
	fatalUnless(t, store.Code(pointer) == api.ErrArg && !store.Lost(pointer), "a pointer to a number is not a number")
}

// bad is an error that panics in one of its methods, with whatever value.
type bad struct {
	in   error
	at   string
	with any
}

func (b bad) fall(at string) {
	if b.at == at {
		panic(b.with)
	}
}

func (b bad) Error() string { b.fall("Error"); return "bad" }

func (b bad) Unwrap() error { b.fall("Unwrap"); return b.in }

func (b bad) Is(error) bool { b.fall("Is"); return false }

func (b bad) As(target any) bool {
	if p, is := target.(*api.Errno); is && b.at == "As" {
		*p = 77
	}
	b.fall("As")
	return false
}

// W0: no error that is handed in makes Code or Lost panic: of one that falls when it is asked there is no number.
func TestErrorsThatPanic(t *testing.T) {
	for _, with := range []any{"x", io.EOF, nil, 7} {
		for _, x := range []struct {
			at   string
			code api.Errno
			lost bool
		}{{"Error", api.ErrDown, true}, {"Unwrap", api.ErrArg, false}, {"Is", api.ErrDown, false}, {"As", api.ErrArg, true}} {
			b := bad{api.ErrDown, x.at, with}
			for _, err := range []error{b, &b, wrap{b}, errors.Join(io.EOF, b)} {
				fatalUnless(t, store.Code(err) == x.code && store.Lost(err) == x.lost, "%s falls: Code %d, Lost %v", x.at, store.Code(err), store.Lost(err))
			}
		}
	}
	for _, err := range []error{(*wrap)(nil), (*bad)(nil), wrap{(*wrap)(nil)}} { // Go itself panics: a method of a value that is not there
		fatalUnless(t, store.Code(err) == api.ErrArg && !store.Lost(err), "Code %d, Lost %v", store.Code(err), store.Lost(err))
	}
}
