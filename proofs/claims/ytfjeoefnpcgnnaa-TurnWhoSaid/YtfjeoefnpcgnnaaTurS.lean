/- The program's turn, and what the laws lay. -/
import Derived.Test.YtfjeoefnpcgnnaaTurC
import Derived.Test.YtfjeoefnpcgnnaaTurB
