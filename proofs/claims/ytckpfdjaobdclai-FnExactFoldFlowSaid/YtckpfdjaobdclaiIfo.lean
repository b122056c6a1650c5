/- impl answers FoldFlow as its plain function. -/
import Derived.Test.YtckpfdjaobdclaiIff
