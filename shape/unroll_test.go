package shape_test

import (
	"slices"
	"strconv"
	"strings"
	"testing"

	"linkwork/api"
	"linkwork/shape"
	"linkwork/syntax"
)

func TestUnroll(t *testing.T) {
	for _, x := range []struct {
		text string
		want []string
	}{
		// equal
		{"a = 1;", []string{"e: a = 1 ;"}},
		{"x = 2 * {1, 2, 3};", []string{"e[1]: x [ 1 ] = 2 * 1 ;", "e[2]: x [ 2 ] = 2 * 2 ;", "e[3]: x [ 3 ] = 2 * 3 ;"}},
		{"y = -y;", []string{"e[1,1]: y [ 1 , 1 ] = - y [ 1 , 1 ] ;", "e[1,2]: y [ 1 , 2 ] = - y [ 1 , 2 ] ;", "e[2,1]: y [ 2 , 1 ] = - y [ 2 , 1 ] ;", "e[2,2]: y [ 2 , 2 ] = - y [ 2 , 2 ] ;"}},
		{"b = b;", nil},
		{"n = der(n);", []string{"e: 2 = der ( n ) ;"}},
		{"sum(x) = size(x, 1);", []string{"e: x [ 1 ] + x [ 2 ] + x [ 3 ] = 3 ;"}},
		{"(if a > 1 then a else n) = 1;", []string{"e: ( if a > 1 then a else 2 ) = 1 ;"}},
		// connect, where a ref is a path
		{"connect(a, x[n]);", []string{"e: connect ( a , x [ 2 ] ) ;"}},
		{"connect(p, p.q);", []string{"e[1]: connect ( p [ 1 ] , p [ 1 ] . q ) ;", "e[2]: connect ( p [ 2 ] , p [ 2 ] . q ) ;"}},
		{"connect(n, p[n].n);", []string{"e: connect ( n , p [ 2 ] . n ) ;"}},
		{"connect(b, b);", nil},
		// for
		{"for i in 1:2 loop x[i] = i; end for;", []string{"e[1].1: x [ 1 ] = 1 ;", "e[2].1: x [ 2 ] = 2 ;"}},
		{"for i in n:size(x, 1) loop x[i] = i; end for;", []string{"e[2].1: x [ 2 ] = 2 ;", "e[3].1: x [ 3 ] = 3 ;"}},
		{"for i in 2:1 loop x[i] = unknown; end for;", nil},
		{"for i in 3:3 loop end for;", nil},
		{"for i in m:-m loop end for;", nil},
		{"for i in 0:1 loop x = i * x; end for;", []string{"e[0].1[1]: x [ 1 ] = 0 * x [ 1 ] ;", "e[0].1[2]: x [ 2 ] = 0 * x [ 2 ] ;", "e[0].1[3]: x [ 3 ] = 0 * x [ 3 ] ;",
			"e[1].1[1]: x [ 1 ] = 1 * x [ 1 ] ;", "e[1].1[2]: x [ 2 ] = 1 * x [ 2 ] ;", "e[1].1[3]: x [ 3 ] = 1 * x [ 3 ] ;"}},
		// statements in the order of their texts
		{"for i in 1:2 loop x[i] = 3; x[i] = 21; connect(a, a); end for;", []string{"e[1].1: connect ( a , a ) ;", "e[1].2: x [ 1 ] = 21 ;", "e[1].3: x [ 1 ] = 3 ;",
			"e[2].1: connect ( a , a ) ;", "e[2].2: x [ 2 ] = 21 ;", "e[2].3: x [ 2 ] = 3 ;"}},
		{"for i in 1:1 loop a = 1; a = 1; x[i] = 1; (if true then a else n) = 1; end for;",
			[]string{"e[1].1: ( if true then a else 2 ) = 1 ;", "e[1].2: a = 1 ;", "e[1].3: a = 1 ;", "e[1].4: x [ 1 ] = 1 ;"}},
		// variables of loops, instead of other whole numbers, and only where a ref may be one
		{"for n in n:n + 1 loop x[n] = n; end for;", []string{"e[2].1: x [ 2 ] = 2 ;", "e[3].1: x [ 3 ] = 3 ;"}},
		{"for a in 1:1 loop der(a) = a; pre(a) = a; connect(a, x[a]); end for;", []string{"e[1].1: connect ( a , x [ 1 ] ) ;", "e[1].2: der ( a ) = 1 ;", "e[1].3: pre ( a ) = 1 ;"}},
		{"for x in 1:1 loop size(x, x) = x; end for;", []string{"e[1].1: 3 = 1 ;"}},
		{"for i in 1:2 loop for j in i:2 loop y[i,j] = i * j; end for; end for;", []string{"e[1].1[1].1: y [ 1 , 1 ] = 1 * 1 ;", "e[1].1[2].1: y [ 1 , 2 ] = 1 * 2 ;", "e[2].1[2].1: y [ 2 , 2 ] = 2 * 2 ;"}},
		{"for i in 1:2 loop for i in i:2 loop a = i; end for; a = i; end for;", []string{"e[1].1: a = 1 ;", "e[1].2[1].1: a = 1 ;", "e[1].2[2].1: a = 2 ;", "e[2].1: a = 2 ;", "e[2].2[2].1: a = 2 ;"}},
		// if
		{"if n > 1 then a = 1; else a = 2; end if;", []string{"e.1: a = 1 ;"}},
		{"if n < 1 then a = 1; else a = 2; end if;", []string{"e.1: a = 2 ;"}},
		{"if n < 1 then a = 1; end if;", nil},
		{"if n then a = 2; a = 1; else a = 3; end if;", []string{"e.1: a = 1 ;", "e.2: a = 2 ;"}},
		{"if k then a = 1; else x[n] = 2; a = 2; end if;", []string{"e.1: a = 2 ;", "e.2: x [ 2 ] = 2 ;"}},
		{"if m then a = 1; end if;", []string{"e.1: a = 1 ;"}},
		{"if true then else a = unknown; end if;", nil},
		{"if not (n == 1 or n == 3) and size(x, 1) == 3 then if p then x = x; end if; end if;", []string{"e.1.1[1]: x [ 1 ] = x [ 1 ] ;", "e.1.1[2]: x [ 2 ] = x [ 2 ] ;", "e.1.1[3]: x [ 3 ] = x [ 3 ] ;"}},
		{"for i in 0:2 loop if i then a = i; else a = 9; end if; end for;", []string{"e[0].1.1: a = 9 ;", "e[1].1.1: a = 1 ;", "e[2].1.1: a = 2 ;"}},
		{"for i in 1:3 loop if i == 2 then a = i; end if; end for;", []string{"e[2].1.1: a = 2 ;"}},
		// when: acts stay in the order in which they are there
		{"when a > n then x[n] = sum(x); a = n; reinit(a, -x[p]); end when;", []string{"e: when a > 2 then x [ 2 ] = x [ 1 ] + x [ 2 ] + x [ 3 ] ; a = 2 ; reinit ( a , - x [ 1 ] ) ; end when ;"}},
		{"when sample(1 - 1, 2) then n = n; reinit(n, n); end when;", []string{"e: when sample ( 1 - 1 , 2 ) then n = 2 ; reinit ( n , 2 ) ; end when ;"}},
		{"for a in 1:2 loop when a > x[a] then a = a; reinit(a, a); end when; end for;", []string{"e[1].1: when 1 > x [ 1 ] then a = 1 ; reinit ( a , 1 ) ; end when ;", "e[2].1: when 2 > x [ 2 ] then a = 2 ; reinit ( a , 2 ) ; end when ;"}},
		{"when n then a = 1; end when;", []string{"e: when 2 then a = 1 ; end when ;"}},
		{"if true then when true then a = 1; end when; a = 2; x[1] = 3; end if;", []string{"e.1: a = 2 ;", "e.2: when true then a = 1 ; end when ;", "e.3: x [ 1 ] = 3 ;"}},
	} {
		list, err := shape.Unroll(usual(), "e", stmt(t, x.text))
		if !slices.Equal(lines(list), x.want) || err != api.OK {
			t.Errorf("Unroll(%s) = %q, %d, want %q", x.text, lines(list), err, x.want)
		}
	}
}

func TestUnrollErrors(t *testing.T) {
	for text, want := range map[string]api.Errno{
		// of Shape, the Left side first
		"unknown = x[9];": api.ErrName, "x[9] = unknown;": api.ErrArg, "a = unknown;": api.ErrName, "x[1/0] = a;": api.ErrZero, "x[a] = a;": api.ErrType,
		"x + y = unknown;": api.ErrDim, "sample(n, 1) = unknown;": api.ErrType, "size(x, 2) = 1;": api.ErrArg, "x = x[unknown];": api.ErrType,
		"x[big + 1] = a;": api.ErrSize, "a[1] = 1;": api.ErrDim,
		// shapes that differ
		"x = 1;": api.ErrDim, "a = x;": api.ErrDim, "x = y;": api.ErrDim, "x = {1, 2};": api.ErrDim, "b = c;": api.ErrDim, "p = p;": api.OK, "pre(p) = 1;": api.ErrDim,
		// connect, where a ref is no whole number
		"connect(m, a);": api.ErrName, "connect(a, m);": api.ErrName, "connect(unknown, x[9]);": api.ErrName, "connect(x[9], unknown);": api.ErrArg,
		"connect(x, a);": api.ErrDim, "connect(p, n);": api.ErrDim, "connect(a[1], a);": api.ErrDim, "connect(x[m], a);": api.ErrArg, "connect(s.t.u, unknown);": api.ErrDim,
		// for: From, then To, then what is in it
		"for i in 1/0:1/2 loop end for;": api.ErrZero, "for i in 1/2:1/0 loop end for;": api.ErrArg, "for i in 1:1/0 loop end for;": api.ErrZero,
		"for i in 1:a loop end for;": api.ErrType, "for i in i:1 loop end for;": api.ErrType, "for i in 1:i loop end for;": api.ErrType, "for i in 1.5:2 loop end for;": api.ErrType,
		"for i in true:2 loop end for;": api.ErrType, "for i in 1:size(m, 1) loop end for;": api.ErrName, "for i in 1:big + 1 loop end for;": api.ErrSize,
		"for i in 1:size(x[4], 1) loop end for;": api.ErrArg, "for i in size(y[1], 1):1 loop end for;": api.ErrDim,
		"for i in 2:4 loop x[i] = 1; end for;": api.ErrArg, "for i in 1:1 loop der(i) = 1; end for;": api.ErrName, "for i in 1:1 loop connect(i, i); end for;": api.ErrName,
		"for i in 1:1 loop when true then i = 1; end when; end for;": api.ErrName, "for i in 1:1 loop when true then reinit(i, 1); end when; end for;": api.ErrName,
		"for i in 1:1 loop i[1] = 1; end for;": api.ErrName, "for i in 1:1 loop for j in 1:1 loop end for; x[j] = 1; end for;": api.ErrType,
		// statement by statement, in the order of their texts
		"for i in 1:1 loop x[4] = 1; unknown = 1; b = 1; end for;": api.ErrDim, "for i in 1:1 loop x[4] = 1; unknown = 1; end for;": api.ErrName,
		"if true then x[4] = 1; unknown = 1; end if;": api.ErrName, "if false then else x[4] = 1; b = 1; end if;": api.ErrDim,
		"for i in 1:2 loop x[i + 2] = 1; x[i + 1 / (2 - i)] = 1; end for;": api.ErrZero,
		// if: Cond is a truth, or a word that is a whole number
		"if a then end if;": api.ErrType, "if 1 then end if;": api.ErrType, "if n + 1 then end if;": api.ErrType, "if x[1] then end if;": api.ErrType, "if n[1] then end if;": api.ErrType,
		"if p.n then end if;": api.ErrType, "if unknown then end if;": api.ErrType, "if time > 1 then end if;": api.ErrType, "if a > 1 then end if;": api.ErrType,
		"if initial() then end if;": api.ErrType, "if 1/0 == 1 then end if;": api.ErrZero, "if 1/2 == 1 then end if;": api.ErrArg, "if big + 1 == 1 then end if;": api.ErrSize,
		"if size(m, 1) == 1 then end if;": api.ErrName, "if (if true then true else true) then end if;": api.ErrType, "if n and true then end if;": api.ErrType,
		"if size(a[1], 1) == 1 then end if;": api.ErrDim, "if false and 1/0 == 1 then end if;": api.ErrZero,
		// when: each of its expressions is a scalar
		"when unknown then a = 1; end when;": api.ErrName, "when x then a = unknown; end when;": api.ErrDim, "when a then x = unknown; end when;": api.ErrDim,
		"when a then unknown = x; end when;": api.ErrName, "when a then a = x; unknown = 1; end when;": api.ErrDim, "when a then a = unknown; a = x; end when;": api.ErrName,
		"when a then reinit(x, 1); end when;": api.ErrDim, "when a then reinit(a, x); end when;": api.ErrDim, "when a then reinit(m, x); end when;": api.ErrName,
		"when a then m = 1; end when;": api.ErrName, "when a then x = x; end when;": api.ErrDim, "when a then p = 1; end when;": api.ErrDim, "when a then reinit(x[4], 1); end when;": api.ErrArg,
		"when sample(n, 1) then a = 1; end when;": api.ErrType, "when x > 1 then a = 1; end when;": api.ErrDim, "when a then x[1/0] = 1; end when;": api.ErrZero, "when b then a = 1; end when;": api.ErrDim,
		// integers in names
		"for i in -1:-1 loop a = 1; end for;": api.ErrForm, "for i in m:k loop end for;": api.OK, "for i in m:k loop if i < 0 then else a = i; end if; end for;": api.OK,
		"for i in m:k loop unknown = 1; end for;": api.ErrName, "for i in m:k loop a = sum(z); end for;": api.ErrForm, "for i in -1:-1 loop b = b; end for;": api.OK,
		"for i in -1:-1 loop when x then a = 1; end when; end for;": api.ErrDim, "for i in -1:-1 loop when true then a = 1; end when; end for;": api.ErrForm,
		// what is too large
		"a = sum(z);": api.ErrSize, "sum(z) = a;": api.ErrSize, "x = {1, 2, sum(z)};": api.ErrSize, "when sum(z) > 1 then a = 1; end when;": api.ErrSize,
		"when true then a = 1; a = sum(z); end when;": api.ErrSize, "when true then reinit(a, sum(z)); end when;": api.ErrSize, "when true then a = sum(z); a = unknown; end when;": api.ErrName,
		"z = z;": api.OK, "for i in 1:2 loop if i == 2 then a = unknown; else a = sum(z); end if; end for;": api.ErrSize, "for i in 1:2 loop if i == 1 then a = unknown; else a = sum(z); end if; end for;": api.ErrName,
	} {
		list, err := shape.Unroll(usual(), "e", stmt(t, text))
		if err != want || err != api.OK && len(list) > 0 {
			t.Errorf("Unroll(%s) = %q, %d, want %d", text, lines(list), err, want)
		}
	}
}

func TestUnrollNames(t *testing.T) {
	long := strings.Repeat("e", api.MaxName)
	equal, loop := "a = 1;", "for i in 9:10 loop if true then a = i; end if; end for;"
	for _, x := range []struct {
		name, text string
		err        api.Errno
	}{
		{"e", equal, api.OK}, {"a_1.[2],b'", equal, api.OK}, {"Z''", equal, api.OK}, {long, equal, api.OK},
		{"", equal, api.ErrForm}, {"1e", equal, api.ErrForm}, {"_e", equal, api.ErrForm}, {".e", equal, api.ErrForm}, {"e-", equal, api.ErrForm}, {"e e", equal, api.ErrForm},
		{"\xc3\xa9", equal, api.ErrForm}, {"e\xc3\xa9", equal, api.ErrForm}, {"e\xff", equal, api.ErrForm}, {"e\x00", equal, api.ErrForm}, {"e:", equal, api.ErrForm}, {"e@", equal, api.ErrForm}, {"e`", equal, api.ErrForm},
		{long + "e", equal, api.ErrForm}, {"", "a = unknown;", api.ErrForm}, {"-", "for i in 2:1 loop end for;", api.ErrForm},
		// the names of lines
		{long[:72], loop, api.OK}, {long[:73], loop, api.ErrForm}, // with [10].1.1, but not with [9].1.1
		{long[:77], "x = x;", api.OK}, {long[:78], "x = x;", api.ErrForm}, {long[:75], "y = y;", api.OK}, {long[:76], "y = y;", api.ErrForm},
		{long, "x = x;", api.ErrForm}, {long, "b = b;", api.OK}, {long, "for i in 1:2 loop b = b; end for;", api.OK}, {long, "for i in 1:2 loop b = unknown; end for;", api.ErrName},
	} {
		list, err := shape.Unroll(usual(), x.name, stmt(t, x.text))
		if err != x.err || err != api.OK && len(list) > 0 {
			t.Errorf("Unroll(%q, %s) = %q, %d, want %d", x.name, x.text, lines(list), err, x.err)
		}
	}
}

func TestUnrollLimits(t *testing.T) {
	for text, want := range map[string]struct {
		count int
		err   api.Errno
	}{
		"for i in 1:400 loop a = i; end for;":                                           {400, api.OK},
		"for i in 1:401 loop a = i; end for;":                                           {0, api.ErrSize},
		"for i in 1:401 loop if i < 401 then a = i; else a = unknown; end if; end for;": {0, api.ErrName},
		"for i in 1:402 loop if i < 402 then a = i; else a = unknown; end if; end for;": {0, api.ErrSize},
		"for i in 1:100 loop a = 1; a = 2; a = 3; a = 4; end for;":                      {400, api.OK},
		"for i in 1:101 loop a = 1; a = 2; a = 3; a = 4; end for;":                      {0, api.ErrSize},
		"for i in 1:2 loop z = z; end for;":                                             {288, api.OK},
		"for i in 1:3 loop z = z; end for;":                                             {0, api.ErrSize},
		"for i in 1:3 loop connect(z, z); end for;":                                     {0, api.ErrSize},
		"for i in 1:400 loop when true then a = 1; end when; end for;":                  {400, api.OK},
		"for i in 1:401 loop when true then a = 1; end when; end for;":                  {0, api.ErrSize},
		"{z, z, z} = {z, z, z};":                                                        {0, api.ErrSize},
		// bodies of for that are gone through
		"for i in 1:4000 loop end for;":                                                       {0, api.OK},
		"for i in 1:4001 loop end for;":                                                       {0, api.ErrSize},
		"for i in low:big loop end for;":                                                      {0, api.ErrSize},
		"for i in 0:4000 loop if i == 4000 then a = unknown; end if; end for;":                {0, api.ErrSize},
		"for i in 1:4000 loop if i == 4000 then a = unknown; end if; end for;":                {0, api.ErrName},
		"for i in 1:4000 loop if i > 3600 then a = i; end if; end for;":                       {400, api.OK},
		"for i in 1:80 loop for j in 1:49 loop end for; end for;":                             {0, api.OK}, // 80 and 80 * 49
		"for i in 1:80 loop for j in 1:50 loop end for; end for;":                             {0, api.ErrSize},
		"for i in 1:1000 loop for j in 1:2 loop end for; for j in 3:3 loop end for; end for;": {0, api.OK},
		"for i in 1:1001 loop for j in 1:2 loop end for; for j in 3:3 loop end for; end for;": {0, api.ErrSize},
		"if true then for i in 1:2000 loop end for; for i in 2:2001 loop end for; end if;":    {0, api.OK},
		"if true then for i in 1:2000 loop end for; for i in 2:2002 loop end for; end if;":    {0, api.ErrSize},
		"if false then for i in 1:4001 loop end for; end if;":                                 {0, api.OK},
	} {
		list, err := shape.Unroll(usual(), "e", stmt(t, text))
		if len(list) != want.count || err != want.err {
			t.Errorf("Unroll(%s): %d, %d, want %d, %d", text, len(list), err, want.count, want.err)
		}
	}
	// each call counts for itself
	for range 3 {
		if _, err := shape.Unroll(usual(), "e", stmt(t, "for i in 1:4000 loop end for;")); err != api.OK {
			t.Errorf("Unroll: %d", err)
		}
	}
}

func TestUnrollMalformed(t *testing.T) {
	equal := func(x api.Tree) api.Stmt { return api.Stmt{Kind: "equal", Left: one(x), Right: one(number(1))} }
	loop := func(body ...api.Stmt) api.Stmt {
		return api.Stmt{Kind: "for", Var: "i", From: one(number(2)), To: one(number(1)), Body: body}
	}
	deep := loop()
	for range 6 {
		deep = loop(deep)
	}
	cyclic := loop(loop())
	cyclic.Body[0] = cyclic
	large := badTrees()["too many"]
	for what, x := range map[string]struct {
		stmt api.Stmt
		err  api.Errno
	}{
		"nothing":              {api.Stmt{}, api.ErrForm},
		"another kind":         {api.Stmt{Kind: "while"}, api.ErrForm},
		"an act":               {api.Stmt{Kind: "reinit", Left: one(ref("a")), Right: one(number(1))}, api.ErrForm},
		"one side":             {api.Stmt{Kind: "equal", Left: one(number(1))}, api.ErrForm},
		"two Lefts":            {api.Stmt{Kind: "equal", Left: []api.Tree{number(1), number(1)}, Right: one(number(1))}, api.ErrForm},
		"a field more":         {api.Stmt{Kind: "equal", Left: one(number(1)), Right: one(number(1)), Var: "i"}, api.ErrForm},
		"a string":             {equal(api.Tree{Op: "string", Text: "m"}), api.ErrForm},
		"no expression":        {equal(api.Tree{Op: "num", Text: "x"}), api.ErrForm},
		"connect of a number":  {api.Stmt{Kind: "connect", Left: one(ref("a")), Right: one(number(1))}, api.ErrForm},
		"a keyword as Var":     {api.Stmt{Kind: "for", Var: "for", From: one(number(2)), To: one(number(1))}, api.ErrForm},
		"a for without To":     {api.Stmt{Kind: "for", Var: "i", From: one(number(2))}, api.ErrForm},
		"a when without acts":  {api.Stmt{Kind: "when", Cond: one(node("true"))}, api.ErrForm},
		"a when of a when":     {api.Stmt{Kind: "when", Cond: one(node("true")), Body: []api.Stmt{{Kind: "when", Cond: one(node("true"))}}}, api.ErrForm},
		"an act on a number":   {api.Stmt{Kind: "when", Cond: one(node("true")), Body: []api.Stmt{equal(number(1))}}, api.ErrForm},
		"malformed within":     {loop(loop(api.Stmt{Kind: "reinit", Left: one(ref("a")), Right: one(number(1))})), api.ErrForm},
		"a body of 40":         {loop(slices.Repeat([]api.Stmt{equal(number(1))}, 40)...), api.OK},
		"a body of 41":         {loop(slices.Repeat([]api.Stmt{equal(number(1))}, 41)...), api.ErrSize},
		"six levels":           {deep.Body[0], api.OK},
		"seven levels":         {deep, api.ErrSize},
		"endless":              {cyclic, api.ErrSize},
		"too large a tree":     {equal(large), api.ErrSize},
		"endless tree":         {equal(endless()), api.ErrSize},
		"too large a From":     {api.Stmt{Kind: "for", Var: "i", From: one(large), To: one(number(1))}, api.ErrSize},
		"too large, malformed": {loop(equal(large), api.Stmt{}), api.ErrSize}, // as in chapter 6
	} {
		if list, err := shape.Unroll(usual(), "e", x.stmt); len(list) > 0 || err != x.err {
			t.Errorf("%s: Unroll = %q, %d, want %d", what, lines(list), err, x.err)
		}
		// a name that is none is malformed, ahead of what is too large
		if list, err := shape.Unroll(usual(), "1", x.stmt); len(list) > 0 || err != api.ErrForm {
			t.Errorf("%s: Unroll = %q, %d", what, lines(list), err)
		}
	}
}

// Statements of bodies have their numbers by their texts, whatever their kinds.
func TestUnrollOrder(t *testing.T) {
	list := []string{
		"a = 1;", "a = 2;", "x[1] = 1;", "x[n] = 1;", "{1} = {2};", "1 = 2;", "(if a > 1 then 1 else 2) = 1;", "-a = 1;", "not a > 1 = true;", "der(a) = 1;", "initial() = true;",
		"connect(a, a);", "connect(a, x[1]);", "connect(x[1], a);",
		"for i in 1:1 loop a = 1; end for;", "for i in 1:1 loop a = i; end for;", "for i in 1:2 loop a = 1; end for;", "for i in 1:n loop a = 1; end for;", "for j in 1:1 loop a = 1; end for;",
		"for i in 1:1 loop end for;", "for i in 1:1 loop x[1] = 1; end for;", "for i in 1:1 loop x[1] = 1; a = 1; end for;", "for i in n:n loop a = 1; end for;",
		"if true then a = 1; end if;", "if true then a = 2; end if;", "if true then x[1] = 1; end if;", "if true then end if;", "if false then end if;", "if true then else a = 1; end if;",
		"if false then else a = 1; end if;", "if false then else x[1] = 1; end if;", "if false then a = 1; else a = 1; end if;", "if n then a = 1; end if;", "if n then a = 1; x[1] = 1; end if;",
		"if true then if true then a = 1; end if; end if;", "if true then for i in 1:1 loop a = 1; end for; end if;",
		"when true then a = 1; end when;", "when true then x[1] = 1; end when;", "when true then reinit(a, 1); end when;", "when true then reinit(x[1], 1); end when;",
		"when a > 1 then a = 1; end when;", "when true then a = 1; a = 2; end when;", "when true then a = 1; reinit(a, 1); end when;",
	}
	for i, first := range list {
		for _, second := range list[i+1:] {
			a, b := stmt(t, first), stmt(t, second)
			one, _ := syntax.Line(a)
			other, _ := syntax.Line(b)
			if other < one {
				a, b = b, a
			}
			l1, e1 := shape.Unroll(usual(), "e.1", a)
			l2, e2 := shape.Unroll(usual(), "e.2", b)
			for _, body := range [][]api.Stmt{{a, b}, {b, a}} {
				got, err := shape.Unroll(usual(), "e", api.Stmt{Kind: "if", Cond: []api.Tree{node("true")}, Body: body})
				if !same(got, append(slices.Clone(l1), l2...)) || err != api.OK || e1 != api.OK || e2 != api.OK {
					t.Errorf("Unroll of %s and %s: %q, %d, %d, %d", first, second, lines(got), err, e1, e2)
				}
			}
		}
	}
}

// The text of a statement may be longer than that of a source, and then it has its place, too.
func TestUnrollLong(t *testing.T) {
	var body []api.Stmt
	for i := range 40 {
		right := added(api.Tree{Op: "num", Text: "333333333333333"}, 40)
		body = append(body, api.Stmt{Kind: "equal", Left: one(ref("x" + strconv.Itoa(i%3))), Right: one(node("add", number(39-i), right))})
	}
	inner := api.Stmt{Kind: "for", Var: "i", From: one(number(1)), To: one(number(1)), Body: body}
	first := clone(inner)
	first.Body[0].Left = one(ref("x"))
	x := api.Stmt{Kind: "if", Cond: one(node("true")), Body: []api.Stmt{inner, first}}
	if _, err := syntax.Line(inner); err != api.ErrSize {
		t.Fatalf("Line: %d", err)
	}
	list, err := shape.Unroll(scopeOf("x x0 x1 x2"), "e", x)
	if err != api.OK || len(list) != 80 {
		t.Fatalf("Unroll: %d, %d", len(list), err)
	}
	last := ""
	for i, l := range list {
		at := i % 40
		text, _ := syntax.Line(l.Stmt)
		want := "e." + strconv.Itoa(i/40+1) + "[1]." + strconv.Itoa(at+1)
		if l.Name != want || at > 0 && last > text {
			t.Errorf("line %d: %s, want %s", i, line(l), want)
		}
		last = text
	}
	if !strings.HasPrefix(line(list[0]), "e.1[1].1: x = 39 ") {
		t.Errorf("the first line: %s", line(list[0]))
	}
}

// Lines are new memory, and the arguments stay as they are.
func TestUnrollNew(t *testing.T) {
	for _, text := range []string{
		"x = 2 * {a, n, x[1]};", "connect(p.q, p);", "a = sample(1, 2);", "for i in 1:3 loop x[i] = sample(1, 2); a = x[i]; end for;",
		"for i in 1:2 loop if i > 1 then y[i,1] = a; a = y[i,2]; else connect(a, a); end if; end for;",
		"for i in 1:2 loop when sample(0, 1) then a = x[i]; reinit(a, -a); end when; end for;",
	} {
		s, x := usual(), stmt(t, text)
		list, err := shape.Unroll(s, "e", x)
		again, _ := shape.Unroll(s, "e", x)
		if err != api.OK || len(list) == 0 || !isNew([][]api.Line{list, again}, s, x) {
			t.Errorf("Unroll(%s), %d, shares memory", text, err)
		}
		if !same(s, usual()) || !same(x, stmt(t, text)) {
			t.Errorf("Unroll(%s) changed its arguments", text)
		}
	}
}
