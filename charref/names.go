package charref

// reference is a name and the scalars it stands for; few names have a second one, which is 0 where there is none.
type reference struct {
	name          string
	first, second int
}

// count: how many names there are.
const count = 109

// references are in the order of their names, since they are looked for by halves. (They are made here as there are more than a table of the package may hold.)
func references() [count]reference {
	return [count]reference{
		{"AMP", 38, 0}, {"AMP;", 38, 0}, {"Alpha;", 913, 0},
		{"Eacute", 201, 0}, {"Eacute;", 201, 0}, {"GT", 62, 0},
		{"GT;", 62, 0}, {"LT", 60, 0}, {"LT;", 60, 0},
		{"NewLine;", 10, 0}, {"NotEqualTilde;", 8770, 824}, {"Omega;", 937, 0},
		{"Ouml", 214, 0}, {"Ouml;", 214, 0}, {"QUOT", 34, 0},
		{"QUOT;", 34, 0}, {"REG", 174, 0}, {"REG;", 174, 0},
		{"Tab;", 9, 0}, {"aacute", 225, 0}, {"aacute;", 225, 0},
		{"acE;", 8766, 819}, {"alpha;", 945, 0}, {"amp", 38, 0},
		{"amp;", 38, 0}, {"apos;", 39, 0}, {"auml", 228, 0},
		{"auml;", 228, 0}, {"beta;", 946, 0}, {"bull;", 8226, 0},
		{"cent", 162, 0}, {"cent;", 162, 0}, {"centerdot;", 183, 0},
		{"copy", 169, 0}, {"copy;", 169, 0}, {"copysr;", 8471, 0},
		{"deg", 176, 0}, {"deg;", 176, 0}, {"divide", 247, 0},
		{"divide;", 247, 0}, {"divideontimes;", 8903, 0}, {"eacute", 233, 0},
		{"eacute;", 233, 0}, {"euro;", 8364, 0}, {"frac12", 189, 0},
		{"frac12;", 189, 0}, {"frac14", 188, 0}, {"frac14;", 188, 0},
		{"gt", 62, 0}, {"gt;", 62, 0}, {"gtcc;", 10919, 0},
		{"hellip;", 8230, 0}, {"iexcl", 161, 0}, {"iexcl;", 161, 0},
		{"in;", 8712, 0}, {"laquo", 171, 0}, {"laquo;", 171, 0},
		{"ldquo;", 8220, 0}, {"lsquo;", 8216, 0}, {"lt", 60, 0},
		{"lt;", 60, 0}, {"ltcc;", 10918, 0}, {"mdash;", 8212, 0},
		{"micro", 181, 0}, {"micro;", 181, 0}, {"middot", 183, 0},
		{"middot;", 183, 0}, {"nbsp", 160, 0}, {"nbsp;", 160, 0},
		{"ndash;", 8211, 0}, {"not", 172, 0}, {"not;", 172, 0},
		{"notin;", 8713, 0}, {"notinE;", 8953, 824}, {"omega;", 969, 0},
		{"ouml", 246, 0}, {"ouml;", 246, 0}, {"para", 182, 0},
		{"para;", 182, 0}, {"parallel;", 8741, 0}, {"pi;", 960, 0},
		{"plusmn", 177, 0}, {"plusmn;", 177, 0}, {"pound", 163, 0},
		{"pound;", 163, 0}, {"quot", 34, 0}, {"quot;", 34, 0},
		{"raquo", 187, 0}, {"raquo;", 187, 0}, {"rdquo;", 8221, 0},
		{"reg", 174, 0}, {"reg;", 174, 0}, {"rsquo;", 8217, 0},
		{"sect", 167, 0}, {"sect;", 167, 0}, {"shy", 173, 0},
		{"shy;", 173, 0}, {"szlig", 223, 0}, {"szlig;", 223, 0},
		{"times", 215, 0}, {"times;", 215, 0}, {"timesb;", 8864, 0},
		{"trade;", 8482, 0}, {"uml", 168, 0}, {"uml;", 168, 0},
		{"uuml", 252, 0}, {"uuml;", 252, 0}, {"yen", 165, 0},
		{"yen;", 165, 0},
	}
}

func (r reference) scalars() []int {
	if r.second == 0 {
		return []int{r.first}
	}
	return []int{r.first, r.second}
}
