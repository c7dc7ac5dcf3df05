/- Contracts of the program's functions. -/
import Derived.Test.YtjpahjfjpkbcnaaGreatB17

namespace Go.Proofs.YtjpahjfjpkbcnaaGreat
open Go.Proofs Go.RowKit
attribute [local go_sem] eval_put_same eval_put_ne size_put
end Go.Proofs.YtjpahjfjpkbcnaaGreat
namespace Go.Proofs.YtjpahjfjpkbcnaaGreat
open Go.Proofs Go.RowKit
theorem opRb (nm ot : ByteArray) (i : Nat) (T : Tm) : (rbM nm ot i T).op = T.op := by cases T; rfl
theorem lenRb (nm ot : ByteArray) (i : Nat) (T : Tm) : (rbM nm ot i T).kids.length = T.kids.length := by
 cases T with
 | mk op n t ks ps => exact List.length_set
theorem RS.k6 {T : Tm} (h : RS T) : T.kids.length ≤ 6 := ((okB_eq T).1 h.b).1
theorem RS.b12 {T : Tm} (h : RS T) (k : Nat) : (boundL T k).length ≤ 12 := ((okB_eq T).1 h.b).2.1 k
theorem RS.p15 {T : Tm} (h : RS T) (h15 : T.op = 15) (k : Nat) (h0 : 0 < k) (hk : k < T.kids.length) : k - 1 < T.pats.length := by
 obtain ⟨hf, -, -, -⟩ := h
 cases T with
 | mk op n t ks ps =>
  unfold okF at hf
  have h1 : ks.length ≤ ps.length + 1 := hf.1 h15
  have h2 : k < ks.length := hk
  show k - 1 < ps.length
  omega
theorem RS.pp {T : Tm} (h : RS T) : ∀ p ∈ T.pats, patsB p = true ∧ (partsP 1 p).length ≤ 1000000 := by
 obtain ⟨hf, -, -, -⟩ := h
 cases T with
 | mk op n t ks ps =>
  unfold okF at hf
  exact hf.2.2.1
theorem bound_pos {T : Tm} {i k : Nat} (h : k < (boundL T i).length) (h15 : T.op = 15) : 0 < i := by
 unfold boundL at h
 rw [if_neg (by rw [h15]; omega)] at h
 split at h
 ·rename_i h'; exact h'.2
 ·cases h
end Go.Proofs.YtjpahjfjpkbcnaaGreat
