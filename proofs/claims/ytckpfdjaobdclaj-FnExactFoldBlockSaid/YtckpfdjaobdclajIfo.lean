/- impl answers FoldBlock and BlockText as their plain functions. -/
import Derived.Test.YtckpfdjaobdclajIbt
