package rat

const (
	base       = 1_000_000_000
	wordDigits = 9
)

// words is a whole number: nine decimal digits in each word, the lowest word first, no highest word 0.
// It is never changed once it is made, so numbers may share it.
type words []uint32

// one returns the number 1.
func one() words {
	return words{1}
}

// fromUint returns the words of a machine's number.
func fromUint(n uint64) words {
	var w words
	for n > 0 {
		w = append(w, uint32(n%base))
		n /= base
	}
	return w
}

// fromDigits reads decimal digits without leading zeros.
func fromDigits(text string) (words, bool) {
	if len(text) == 0 || len(text) > maxDigits {
		return nil, false
	}
	if text[0] == '0' {
		return nil, len(text) == 1
	}
	w := make(words, (len(text)+wordDigits-1)/wordDigits)
	for i := range len(text) {
		c := text[i]
		if c < '0' || c > '9' {
			return nil, false
		}
		at := (len(text) - 1 - i) / wordDigits
		w[at] = w[at]*10 + uint32(c-'0')
	}
	return w, true
}

// down goes through the words from the highest one on.
func (a words) down() func(yield func(at int, word uint32) bool) {
	return func(yield func(at int, word uint32) bool) {
		for at := len(a) - 1; at >= 0; at-- {
			if !yield(at, a[at]) {
				return
			}
		}
	}
}

// trimmed returns it without highest words that are 0.
func (a words) trimmed() words {
	for at, word := range a.down() {
		if word != 0 {
			return a[:at+1]
		}
	}
	return nil
}

func (a words) isZero() bool {
	return len(a) == 0
}

func (a words) isOne() bool {
	return len(a) == 1 && a[0] == 1
}

func (a words) isOdd() bool {
	return len(a) > 0 && a[0]%2 == 1
}

// digits returns how many decimal digits it is written with.
func (a words) digits() int {
	if len(a) == 0 {
		return 1
	}
	count := (len(a) - 1) * wordDigits
	for top := a[len(a)-1]; top > 0; top /= 10 {
		count++
	}
	return count
}

// appendTo writes its decimal digits behind a text.
func (a words) appendTo(text []byte) []byte {
	if len(a) == 0 {
		return append(text, '0')
	}
	leading := true
	for _, word := range a.down() {
		for unit := uint32(base / 10); unit > 0; unit /= 10 {
			digit := word / unit % 10
			leading = leading && digit == 0
			if !leading {
				text = append(text, byte('0'+digit))
			}
		}
	}
	return text
}

// compare returns -1, 0 or 1, as a is less than, equal to, or greater than b.
func (a words) compare(b words) int {
	if len(a) < len(b) {
		return -1
	}
	if len(a) > len(b) {
		return 1
	}
	for at, word := range a.down() {
		if word < b[at] {
			return -1
		}
		if word > b[at] {
			return 1
		}
	}
	return 0
}

func (a words) plus(b words) words {
	if len(a) < len(b) {
		a, b = b, a
	}
	sum := make(words, len(a), len(a)+1)
	carry := uint32(0)
	for at, word := range a {
		word += carry
		if at < len(b) {
			word += b[at]
		}
		carry = word / base
		sum[at] = word % base
	}
	if carry > 0 {
		sum = append(sum, carry)
	}
	return sum
}

// minus returns the difference; b is not greater than a.
func (a words) minus(b words) words {
	difference := make(words, len(a))
	borrow := uint32(0)
	for at, word := range a {
		less := borrow
		if at < len(b) {
			less += b[at]
		}
		borrow = 0
		if word < less {
			word += base
			borrow = 1
		}
		difference[at] = word - less
	}
	return difference.trimmed()
}

func (a words) times(b words) words {
	if a.isOne() {
		return b
	}
	if b.isOne() {
		return a
	}
	product := make(words, len(a)+len(b))
	for i, x := range a {
		carry := uint64(0)
		for j, y := range b {
			sum := uint64(x)*uint64(y) + uint64(product[i+j]) + carry
			carry = sum / base
			product[i+j] = uint32(sum % base)
		}
		product[i+len(b)] = uint32(carry)
	}
	return product.trimmed()
}

// power returns a power, or, if that has too many digits, any number that has too many, too:
// it would be refused anyway, and is not worked out to its end.
func (a words) power(n int) words {
	power := one()
	for i := 0; i < n && power.digits() <= maxDigits; i++ {
		power = power.times(a)
	}
	return power
}
