package headman

import (
	"strconv"
	"strings"

	"almadraba/anchors"
	"almadraba/api"
	"almadraba/mesh"
	"almadraba/salt"
)

// question is what can be asked of a town, with the numbers behind its word.
type question interface {
	answer(t api.HeadTown, n []int) string
}

// forNumber asks for a number.
type forNumber func(t api.HeadTown, n []int) (int, api.Errno)

// answer returns the number in digits.
func (ask forNumber) answer(t api.HeadTown, n []int) string {
	number, e := ask(t, n)
	return said(strconv.Itoa(number), e)
}

// forList asks for a list.
type forList func(t api.HeadTown) ([]int, api.Errno)

// answer returns the numbers of the list.
func (ask forList) answer(t api.HeadTown, _ []int) string {
	list, e := ask(t)
	return said(joined(list), e)
}

// said returns the answer if a function returns what a text says, or an error.
func said(text string, e api.Errno) string {
	switch e {
	case api.OK:
		return text
	case api.ErrNone:
		return "none"
	}
	return "wrong"
}

// joined returns the numbers of a list in digits.
func joined(list []int) string {
	if len(list) == 0 {
		return "nothing"
	}
	var texts []string
	for _, number := range list {
		texts = append(texts, strconv.Itoa(number))
	}
	return strings.Join(texts, " ")
}

// questions returns the words that ask.
func questions() []word {
	return []word{
		{name: "safe", asks: forNumber(func(t api.HeadTown, _ []int) (int, api.Errno) { return anchors.Safe(t.Net) })},
		{name: "storm", asks: forNumber(func(t api.HeadTown, _ []int) (int, api.Errno) { return anchors.Wind(t.Net) })},
		{name: "need", asks: forList(func(t api.HeadTown) ([]int, api.Errno) { return anchors.Need(t.Net) })},
		{name: "loss", asks: forNumber(func(t api.HeadTown, _ []int) (int, api.Errno) { return mesh.Least(t.Torn) })},
		{name: "order", asks: forList(func(t api.HeadTown) ([]int, api.Errno) { return mesh.Order(t.Torn) })},
		{name: "done", asks: forNumber(func(t api.HeadTown, _ []int) (int, api.Errno) { return mesh.Done(t.Torn) })},
		{name: "salt", asks: forNumber(func(t api.HeadTown, _ []int) (int, api.Errno) { return salt.Least(t.House) })},
		{name: "pack", asks: forList(func(t api.HeadTown) ([]int, api.Errno) { return salt.Pack(t.House) })},
		{name: "early", many: 1, asks: forNumber(func(t api.HeadTown, n []int) (int, api.Errno) { return salt.Early(t.House, n[0]) })},
		{name: "buy", asks: forNumber(func(t api.HeadTown, _ []int) (int, api.Errno) { return salt.Buy(t.House) })},
	}
}
