/- The law on folding, and what it asks of impl. -/
import Derived.Test.YtckpfdjaobdclacLfd
import Derived.Test.YtckpfdjaobdclacIfo
