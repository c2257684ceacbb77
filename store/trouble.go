package store

import (
	"errors"

	"cairn/api"
)

// Trouble is what went wrong, and in which call.
type Trouble struct {
	Op, Key string
	Err     api.Errno
}

// Error is the call, its key, if it has one, and the number's own text. (P24.2)
func (t *Trouble) Error() string {
	if t == nil {
		return ""
	}
	text := t.Op
	if t.Key != "" {
		text += " " + t.Key
	}
	return text + ": " + t.Err.Error()
}

// Unwrap is the number. (P24.2)
func (t *Trouble) Unwrap() error {
	if t == nil {
		return nil
	}
	return t.Err
}

// Code is the number that an error holds, OK of none. (P24.3)
func Code(err error) (number api.Errno) {
	defer func() {
		if recover() != nil { // an error of a caller's own may panic when it is asked: then it holds no number
			number = api.ErrArg
		}
	}()
	if err == nil {
		return api.OK
	}
	var found api.Errno
	if errors.As(err, &found) {
		return found
	}
	return api.ErrArg
}

// Lost tells whether the store that answered so serves no more, until it is opened anew. (P24.3)
func Lost(err error) (is bool) {
	defer func() {
		if recover() != nil { // as in Code
			is = false
		}
	}()
	return errors.Is(err, api.ErrDown) || errors.Is(err, api.ErrStopped) || errors.Is(err, api.ErrClosed)
}

// told is a call's number as the error that its caller is told. (P24.1)
func told(op, key string, number api.Errno) error {
	if number == api.OK {
		return nil // as an error: a nil *Trouble would be one
	}
	return &Trouble{Op: op, Key: key, Err: number}
}
