/- The library contracts that the proof uses, laid at this program: maps.Keys, slices.Sorted and slices.Sort at int. -/
import Derived.Shelf.SlIterI.Sorted
import Derived.Shelf.SortM.Plain
import Derived.Shelf.SortM.SortNone
import Derived.Test.YtkbgcbbloogdjacProg
namespace Go.Proofs
open Go.Shelf
def Try.keys71_ren : Go.Shelf.Ren := ⟨fun | 7 => 71 | 10 => 75 | n => n, fun | 23 => 94 | 26 => 3 | 3 => 3 | 28 => 113 | 0 => 0 | 27 => 112 | 33 => 92 | 4 => 4 | n => n, fun | n => n⟩
def Try.sorted70_ren : Go.Shelf.Ren := ⟨fun | 6 => 70 | 8 => 73 | 9 => 74 | 11 => 76 | 13 => 78 | 12 => 77 | 23 => 88 | 24 => 89 | 14 => 72 | 15 => 80 | 16 => 81 | 17 => 82 | 18 => 83 | 19 => 84 | 20 => 85 | 21 => 93 | 22 => 87 | 25 => 94 | 26 => 91 | 27 => 92 | 28 => 93 | 29 => 94 | 30 => 95 | 31 => 96 | n => n, fun | 26 => 3 | 28 => 113 | 24 => 29 | 0 => 0 | 3 => 3 | 37 => 119 | 48 => 128 | 50 => 130 | 4 => 4 | 40 => 122 | 39 => 121 | 45 => 101 | 5 => 5 | 9 => 9 | 51 => 131 | 55 => 135 | 57 => 137 | 58 => 138 | 33 => 92 | n => n, fun | n => n⟩
def Try.sort74_ren : Go.Shelf.Ren := ⟨fun | 5 => 74 | 8 => 78 | 7 => 77 | 19 => 88 | 20 => 89 | 10 => 72 | 11 => 80 | 12 => 81 | 13 => 82 | 14 => 83 | 15 => 84 | 16 => 85 | 17 => 93 | 18 => 87 | 30 => 94 | 31 => 91 | 32 => 92 | 33 => 93 | 34 => 94 | 35 => 95 | 40 => 96 | n => n, fun | 23 => 29 | 25 => 3 | 3 => 3 | 32 => 119 | 22 => 29 | 0 => 0 | 44 => 128 | 46 => 130 | 4 => 4 | 36 => 122 | 35 => 121 | 41 => 101 | 5 => 5 | 9 => 9 | 53 => 131 | 57 => 135 | 63 => 137 | 64 => 138 | n => n, fun | n => n⟩
end Go.Proofs
