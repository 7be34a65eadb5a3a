/- New blocks; rows of bytes. -/
import Derived.Test.YtoblpjknnchlmabGreatDoorBase
import Derived.Test.YtoblpjknnchlmabGreatDoorBxa
