/- What a law's step wants lies in the merged text. -/
import Derived.Test.YtcachhnhncodoaaGreatP10
