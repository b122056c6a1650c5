/- impl's FoldFlow, FoldBlock and BlockText answer as their plain functions. -/
import Derived.Test.YtckpfdjaobdclacIff
import Derived.Test.YtckpfdjaobdclacIbt
