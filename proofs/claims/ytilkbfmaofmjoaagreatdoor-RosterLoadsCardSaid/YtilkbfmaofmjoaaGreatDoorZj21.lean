import Derived.Test.YtilkbfmaofmjoaaGreatDoorZj18
import Derived.Test.YtilkbfmaofmjoaaGreatDoorZj20
namespace Go.Proofs.YtilkbfmaofmjoaaGreatDoor.Nt
open Go.RowKit Go.Rel
set_option linter.unusedSimpArgs false
set_option linter.unusedVariables false
theorem cat3 {S : Nat → Prop} {W : World} {B : Nat} {A : Option Addr} {c : Nat} {t : Tb NdW} (h : TIs S W B A c t) {a b : Nat} (ha : a ≤ t.l.length) (hb : b ≤ t.l.length) (hab : a ≤ b) (h64 : t.l.length ≤ 64) (r : Rw NdW) {Z Y : Nat}
    (kz : W.heap[Z]? = some (.cells #[.slice A a c, .slice (some ⟨Y, 0, none⟩) 1 1, .slice (tailA 7 A b c) (t.l.length - b) (c - b)] 86 (0, 0))) (ky : W.heap[Y]? = some (.cells #[.string r.key, .int .i64 r.val.a.node, .string r.val.a.addr, .int .u64 (r.val.jm : Int), .int .u64 (r.val.ji : Int), .int .u64 (r.made : Int), .int .u64 (r.ix : Int)] 130 (0, 0))) :
    Calls Tryz.prog 116 #[.slice (some ⟨Z, 0, none⟩) 3 3] W fun e w' => ∃ v, e = .returned v ∧ twRow w' W.heap.size v (t.l.take a ++ r :: t.l.drop b) ∧ Below W.heap.size W w' := run_cat3
end Go.Proofs.YtilkbfmaofmjoaaGreatDoor.Nt
