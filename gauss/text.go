package gauss

import (
	"strings"

	"diapason/api"
	"diapason/ratio"
)

// Text is the text of z.
func Text(z api.Gauss) (string, api.Errno) {
	re, reErr := ratio.Text(z.Re)
	im, imErr := ratio.Text(z.Im)
	if reErr != api.OK || imErr != api.OK {
		return "", api.ErrArg
	}
	return join(re, im), api.OK
}

// join puts the texts of both parts together.
func join(re, im string) string {
	second := im + "i"
	switch im {
	case "0":
		return re
	case "1":
		second = "i"
	case "-1":
		second = "-i"
	}
	switch {
	case re == "0":
		return second
	case im[0] == '-':
		return re + second
	}
	return re + "+" + second
}

// Parse reads what Text tells, and that form alone.
func Parse(s string) (api.Gauss, api.Errno) {
	if len(s) > api.MaxText {
		return api.Gauss{}, api.ErrLong
	}
	first, second := split(s)
	// A number has one text alone: what the two parts do not make again is another form of it.
	if join(first, second) != s {
		return api.Gauss{}, api.ErrForm
	}
	re, reErr := ratio.Parse(first)
	im, imErr := ratio.Parse(second)
	switch {
	case reErr == api.ErrForm || imErr == api.ErrForm:
		return api.Gauss{}, api.ErrForm
	case reErr != api.OK || imErr != api.OK:
		return api.Gauss{}, api.ErrLong
	}
	return api.Gauss{Re: re, Im: im}, api.OK
}

// split takes a number's text apart into those of its parts. Where s is no number's text, join does not make it of what is told here, or one of the two is no fraction's text.
func split(s string) (re, im string) {
	s, hasSecond := strings.CutSuffix(s, "i")
	if !hasSecond {
		return s, "0"
	}
	re, im = "0", s
	if at := strings.LastIndexAny(s, "+-"); at > 0 {
		re, im = s[:at], strings.TrimPrefix(s[at:], "+")
	}
	switch im {
	case "":
		im = "1"
	case "-":
		im = "-1"
	}
	return re, im
}
