/- Contracts of the program's functions. -/
import Derived.Test.YtjpahjfjpkbcnaaGreatG11
import Derived.Test.YtjpahjfjpkbcnaaGreatG08
import Derived.Test.YtjpahjfjpkbcnaaGreatG04
import Derived.Test.YtjpahjfjpkbcnaaGreatG05
import Derived.Test.YtjpahjfjpkbcnaaGreatG02
import Derived.Test.YtjpahjfjpkbcnaaGreatG09

/- How many nodes a term has, and how deep it is, by the specification. -/
namespace Go.Proofs.YtjpahjfjpkbcnaaGreat
open Go.Proofs Go.RowKit

mutual
def ndM : Tm → Nat
  | .mk _ _ _ ks _ => 1 + ndsM ks
def ndsM : List Tm → Nat
  | [] => 0
  | p :: ps => ndM p + ndsM ps
end
theorem ndsM_cons (p : Tm) (ps : List Tm) : ndsM (p :: ps) = ndM p + ndsM ps := by conv => lhs; unfold ndsM
theorem ndsM_append : ∀ (ps qs : List Tm), ndsM (ps ++ qs) = ndsM ps + ndsM qs
  | [], qs => by simp [ndsM]
  | p :: ps, qs => by rw [List.cons_append, ndsM_cons, ndsM_cons, ndsM_append ps qs, Nat.add_assoc]
theorem ndsM_take (ps : List Tm) (k : Nat) (h : k < ps.length) : ndsM (ps.take (k + 1)) = ndsM (ps.take k) + ndM ps[k] := by
  rw [List.take_succ_eq_append_getElem h, ndsM_append, ndsM_cons]
  simp [ndsM]
theorem ndsM_take_le (ps : List Tm) (k : Nat) : ndsM (ps.take k) ≤ ndsM ps := by
  conv => rhs; rw [← List.take_append_drop k ps, ndsM_append]
  omega
theorem ndsM_get_le (ps : List Tm) (k : Nat) (h : k < ps.length) : ndsM (ps.take k) + ndM ps[k] ≤ ndsM ps := by
  have h1 := ndsM_take ps k h
  have h2 := ndsM_take_le ps (k + 1)
  omega
mutual
theorem ndM_eq : ∀ (p : Tm) (d : Int), ndM p = (partsM d p).length
  | .mk _ _ _ ks _, d => by
    unfold ndM partsM
    rw [List.length_cons, ndsM_eq ks (d + 1), Nat.add_comm]
theorem ndsM_eq : ∀ (ps : List Tm) (d : Int), ndsM ps = (partssM d ps).length
  | [], _ => by simp [ndsM, partssM]
  | p :: ps, d => by
    unfold ndsM partssM
    rw [List.length_append, ndM_eq p d, ndsM_eq ps d]
end

set_option maxHeartbeats 4000000 in
set_option maxRecDepth 100000 in
theorem refNodes_any (p : Tm) : ∀ (v : Value) (w : World), TmAt w.heap.size w p v → ndM p ≤ 1000000 →
    Calls Tryz.prog 42 #[v] w fun e w' => e = .returned (.int .i64 (ndM p)) ∧ Below w.heap.size w w' := by
  induction hT : SizeOf.sizeOf p using Nat.strongRecOn generalizing p with
  | _ m ih =>
  subst hT
  intro v w hv hlen
  have HIH := Lib.hid ih; clear ih
  cases p with
  | mk op n text kids pats =>
  unfold TmAt at hv
  obtain ⟨kv, pv, rfl, htx, hk, hp⟩ := hv
  obtain ⟨a, cap, rfl, hcap, hlc, hka⟩ := hk.split
  obtain ⟨a', cap', rfl, hcap', hlc', hpa⟩ := hp.split
  have hbx := heap_alloc_new w (.cells #[.int .i64 op, .int .i64 n, .string text, .slice a kids.length cap, .slice a' pats.length cap'] 32)
  have hb0 := (Below.refl w.heap.size w).alloc (Nat.le_refl _) (.cells #[.int .i64 op, .int .i64 n, .string text, .slice a kids.length cap, .slice a' pats.length cap'] 32)
  have hszA : (w.alloc (.cells #[.int .i64 op, .int .i64 n, .string text, .slice a kids.length cap, .slice a' pats.length cap'] 32)).heap.size = w.heap.size + 1 := by simp
  unfold maxLen at hcap hcap'
  have hr : ndM (.mk op n text kids pats) = 1 + ndsM kids := by conv => lhs; unfold ndM
  rw [hr] at hlen
  have HR := Lib.hid hr; have HKA := Lib.hid hka; have HBX := Lib.hid hbx; have HB0 := Lib.hid hb0; have HSZ := Lib.hid hszA
  obtain ⟨c0, c1, c2, c3, c4⟩ := cells5 hbx
  clear hk hp hka hpa hr hbx hb0 hszA
  go_enter Tryz.func42, Tryz.ntmps42
  go_wp2
  go_loopw [3, 4] (fun s i wr => ∃ k : Nat, k ≤ kids.length ∧ i = .int .i64 k ∧ s = .int .i64 (1 + ndsM (kids.take k) : Nat) ∧ Below (w.heap.size + 1) (w.alloc (.cells #[.int .i64 op, .int .i64 n, .string text, .slice a kids.length cap, .slice a' pats.length cap'] 32)) wr) (fun _ i _ => kids.length - (intOf i).toNat)
  case atStart => exact ⟨0, Nat.zero_le _, rfl, by simp [ndsM], Below.refl _ _⟩
  case round =>
    obtain ⟨k, hk, rfl, rfl, hB⟩ := hrel
    clear c0 c1 c2 c3 c4
    have hbx := bget hB HBX.out (by omega)
    obtain ⟨c0, c1, c2, c3, c4⟩ := cells5 hbx
    have hbw : Below w.heap.size w wr := HB0.out.trans (hB.mono (by omega))
    have hsz : w.heap.size + 1 ≤ wr.heap.size := by have := hB.size; have := HSZ.out; omega
    by_cases hlt : k < kids.length
    · have hlt' : (k : Int) < (kids.length : Int) := by omega
      have hle := ndsM_get_le kids k hlt
      have htk := ndsM_take kids k hlt
      obtain ⟨b, o, rfl, hbn, hps⟩ := HKA.out (by omega)
      obtain ⟨e0, e1, e2, e3, e4, g0, g1, g2, g3, g4, ht⟩ := TmsAt.get kids b o hps k hlt
      obtain ⟨oo, nn, tt, ka, kn, kc, pa, pn, pc, rfl, rfl, rfl, rfl, rfl⟩ := ht.shape
      have q0 := (hbw.cell (p := ⟨b, _, none⟩) hbn).trans g0
      have q1 := (hbw.cell (p := ⟨b, _, none⟩) hbn).trans g1
      have q2 := (hbw.cell (p := ⟨b, _, none⟩) hbn).trans g2
      have q3 := (hbw.cell (p := ⟨b, _, none⟩) hbn).trans g3
      have q4 := (hbw.cell (p := ⟨b, _, none⟩) hbn).trans g4
      have hcl := HIH.out _ (kid_lt k hlt) kids[k] rfl _ wr (TmAt.keep hbw hbw.size _ _ ht) (by omega)
      have HC := Lib.hid hcl; have HB := Lib.hid hB; have HTK := Lib.hid htk
      clear hcl hB hbx hbw g0 g1 g2 g3 g4 ht hps htk
      go_wp2_with fail
      refine HC.out.mono ?_
      rintro e w1 ⟨rfl, hb1⟩
      have HB1 := Lib.hid (HB.out.trans (hb1.mono hsz))
      clear hb1 HC c0 c1 c2 c3 c4 q0 q1 q2 q3 q4
      go_wp2
      go_roundw
      case rel => exact ⟨k + 1, by omega, by go_num, by rw [HTK.out]; go_num, HB1.out⟩
      case measure => simp [intOf]; omega
    · obtain rfl : k = kids.length := by omega
      have HBW := Lib.hid hbw
      have hend : ndM (.mk op n text kids pats) = 1 + ndsM (kids.take kids.length) := by rw [HR.out, List.take_length]
      have HEND := Lib.hid hend
      clear hB hbx hbw hend
      go_wp2
      go_ret
      exact ⟨by rw [HEND.out]; rfl, HBW.out⟩

mutual
def dpM : Tm → Nat
  | .mk _ _ _ ks _ => 1 + dpsM ks
def dpsM : List Tm → Nat
  | [] => 0
  | p :: ps => max (dpM p) (dpsM ps)
end
theorem dpsM_cons (p : Tm) (ps : List Tm) : dpsM (p :: ps) = max (dpM p) (dpsM ps) := by conv => lhs; unfold dpsM
theorem dpsM_append : ∀ (ps qs : List Tm), dpsM (ps ++ qs) = max (dpsM ps) (dpsM qs)
  | [], qs => by simp [dpsM]
  | p :: ps, qs => by rw [List.cons_append, dpsM_cons, dpsM_cons, dpsM_append ps qs, Nat.max_assoc]
theorem dpsM_take (ps : List Tm) (k : Nat) (h : k < ps.length) : dpsM (ps.take (k + 1)) = max (dpsM (ps.take k)) (dpM ps[k]) := by
  rw [List.take_succ_eq_append_getElem h, dpsM_append, dpsM_cons]
  simp [dpsM]
theorem dpsM_take_le (ps : List Tm) (k : Nat) : dpsM (ps.take k) ≤ dpsM ps := by
  conv => rhs; rw [← List.take_append_drop k ps, dpsM_append]
  omega
theorem dpsM_get_le (ps : List Tm) (k : Nat) (h : k < ps.length) : dpsM (ps.take k) ≤ dpsM ps ∧ dpM ps[k] ≤ dpsM ps := by
  have h1 := dpsM_take ps k h
  have h2 := dpsM_take_le ps (k + 1)
  omega

set_option maxHeartbeats 4000000 in
set_option maxRecDepth 100000 in
theorem refDepth_any (p : Tm) : ∀ (v : Value) (w : World), TmAt w.heap.size w p v → dpM p ≤ 1000000 →
    Calls Tryz.prog 43 #[v] w fun e w' => e = .returned (.int .i64 (dpM p)) ∧ Below w.heap.size w w' := by
  induction hT : SizeOf.sizeOf p using Nat.strongRecOn generalizing p with
  | _ m ih =>
  subst hT
  intro v w hv hlen
  have HIH := Lib.hid ih; clear ih
  cases p with
  | mk op n text kids pats =>
  unfold TmAt at hv
  obtain ⟨kv, pv, rfl, htx, hk, hp⟩ := hv
  obtain ⟨a, cap, rfl, hcap, hlc, hka⟩ := hk.split
  obtain ⟨a', cap', rfl, hcap', hlc', hpa⟩ := hp.split
  have hbx := heap_alloc_new w (.cells #[.int .i64 op, .int .i64 n, .string text, .slice a kids.length cap, .slice a' pats.length cap'] 32)
  have hb0 := (Below.refl w.heap.size w).alloc (Nat.le_refl _) (.cells #[.int .i64 op, .int .i64 n, .string text, .slice a kids.length cap, .slice a' pats.length cap'] 32)
  have hszA : (w.alloc (.cells #[.int .i64 op, .int .i64 n, .string text, .slice a kids.length cap, .slice a' pats.length cap'] 32)).heap.size = w.heap.size + 1 := by simp
  unfold maxLen at hcap hcap'
  have hr : dpM (.mk op n text kids pats) = 1 + dpsM kids := by conv => lhs; unfold dpM
  rw [hr] at hlen
  have HR := Lib.hid hr; have HKA := Lib.hid hka; have HBX := Lib.hid hbx; have HB0 := Lib.hid hb0; have HSZ := Lib.hid hszA
  obtain ⟨c0, c1, c2, c3, c4⟩ := cells5 hbx
  clear hk hp hka hpa hr hbx hb0 hszA
  go_enter Tryz.func43, Tryz.ntmps43
  go_wp2
  go_loopw [3, 4] (fun s i wr => ∃ k : Nat, k ≤ kids.length ∧ i = .int .i64 k ∧ s = .int .i64 (dpsM (kids.take k) : Nat) ∧ Below (w.heap.size + 1) (w.alloc (.cells #[.int .i64 op, .int .i64 n, .string text, .slice a kids.length cap, .slice a' pats.length cap'] 32)) wr) (fun _ i _ => kids.length - (intOf i).toNat)
  case atStart => exact ⟨0, Nat.zero_le _, rfl, by simp [dpsM], Below.refl _ _⟩
  case round =>
    obtain ⟨k, hk, rfl, rfl, hB⟩ := hrel
    clear c0 c1 c2 c3 c4
    have hbx := bget hB HBX.out (by omega)
    obtain ⟨c0, c1, c2, c3, c4⟩ := cells5 hbx
    have hbw : Below w.heap.size w wr := HB0.out.trans (hB.mono (by omega))
    have hsz : w.heap.size + 1 ≤ wr.heap.size := by have := hB.size; have := HSZ.out; omega
    by_cases hlt : k < kids.length
    · have hlt' : (k : Int) < (kids.length : Int) := by omega
      have hle := dpsM_get_le kids k hlt
      have htk := dpsM_take kids k hlt
      obtain ⟨b, o, rfl, hbn, hps⟩ := HKA.out (by omega)
      obtain ⟨e0, e1, e2, e3, e4, g0, g1, g2, g3, g4, ht⟩ := TmsAt.get kids b o hps k hlt
      obtain ⟨oo, nn, tt, ka, kn, kc, pa, pn, pc, rfl, rfl, rfl, rfl, rfl⟩ := ht.shape
      have q0 := (hbw.cell (p := ⟨b, _, none⟩) hbn).trans g0
      have q1 := (hbw.cell (p := ⟨b, _, none⟩) hbn).trans g1
      have q2 := (hbw.cell (p := ⟨b, _, none⟩) hbn).trans g2
      have q3 := (hbw.cell (p := ⟨b, _, none⟩) hbn).trans g3
      have q4 := (hbw.cell (p := ⟨b, _, none⟩) hbn).trans g4
      have hcl := HIH.out _ (kid_lt k hlt) kids[k] rfl _ wr (TmAt.keep hbw hbw.size _ _ ht) (by omega)
      have HC := Lib.hid hcl; have HB := Lib.hid hB; have HTK := Lib.hid htk
      clear hcl hB hbx hbw g0 g1 g2 g3 g4 ht hps htk
      go_wp2_with fail
      refine HC.out.mono ?_
      rintro e w1 ⟨rfl, hb1⟩
      have HB1 := Lib.hid (HB.out.trans (hb1.mono hsz))
      clear hb1 HC c0 c1 c2 c3 c4 q0 q1 q2 q3 q4
      go_wp2
      go_roundw
      case rel => exact ⟨k + 1, by omega, by go_num, by rw [HTK.out]; go_num, HB1.out⟩
      case measure => simp [intOf]; omega
    · obtain rfl : k = kids.length := by omega
      have HBW := Lib.hid hbw
      clear hB hbx hbw
      go_wp2
      go_ret
      exact ⟨congrArg (fun x : Int => Ending.returned (.int .i64 x)) (show ((dpsM kids : Int) + 1) = ((dpM (.mk op n text kids pats) : Nat) : Int) by rw [HR.out]; omega), HBW.out⟩

end Go.Proofs.YtjpahjfjpkbcnaaGreat

/- The specification's and the program's numbers of nodes, and depths, are one. -/
namespace Go.Proofs.YtjpahjfjpkbcnaaGreat
open Go.Proofs Go.RowKit

/-- The deepest of some. -/
theorem foldl_max_ge (xs : List (Int × Tm)) (m : Int) : m ≤ xs.foldl (fun m x => max m x.1) m := by
  induction xs generalizing m with
  | nil => exact Int.le_refl _
  | cons x xs ih => exact Int.le_trans (Int.le_max_left m x.1) (ih _)
mutual
theorem deep_one : ∀ (p : Tm) (d m : Int), (partsM d p).foldl (fun m x => max m x.1) m = max m (d - 1 + dpM p)
  | .mk op n t ks ps, d, m => by
    unfold partsM dpM
    rw [List.foldl_cons, deep_all ks (d + 1) (max m d) (by omega)]
    omega
theorem deep_all : ∀ (ps : List Tm) (d m : Int), d - 1 ≤ m → (partssM d ps).foldl (fun m x => max m x.1) m = max m (d - 1 + dpsM ps)
  | [], d, m, h => by
    unfold partssM dpsM
    simp
    omega
  | p :: ps, d, m, h => by
    unfold partssM
    rw [List.foldl_append, deep_one p d m, deep_all ps d _ (by omega), dpsM_cons]
    omega
end
theorem nodesM_eq (p : Tm) : nodesM p = ndM p := by unfold nodesM; rw [ndM_eq p 1]
theorem depthM_eq (p : Tm) : depthM p = dpM p := by
  unfold depthM deepest
  rw [deep_one p 1 0]
  omega

end Go.Proofs.YtjpahjfjpkbcnaaGreat

/- Whether two patterns, two terms are the same, by the specification. -/
namespace Go.Proofs.YtjpahjfjpkbcnaaGreat
open Go.Proofs Go.RowKit

theorem size_alloc2 (w : World) (o p : Obj) : ((w.alloc o).alloc p).heap.size = w.heap.size + 2 := by simp
set_option maxHeartbeats 8000000 in
set_option maxRecDepth 100000 in
theorem SamePat_any (p : Pt) : ∀ (q : Pt) (v v' : Value) (w : World), PtAt w.heap.size w p v → PtAt w.heap.size w q v' →
    Calls Tryz.prog 104 #[v, v'] w fun e w' => e = .returned (.bool (eqP p q)) ∧ Below w.heap.size w w' := by
  induction hT : SizeOf.sizeOf p using Nat.strongRecOn generalizing p with
  | _ m ih =>
  subst hT
  intro q v v' w hv hv'
  have HIH := Lib.hid ih; clear ih
  cases p with
  | mk op n text parts =>
  cases q with
  | mk op' n' text' parts' =>
  unfold PtAt at hv hv'
  obtain ⟨kv, rfl, htx, hk⟩ := hv
  obtain ⟨kv', rfl, htx', hk'⟩ := hv'
  obtain ⟨a, cap, rfl, hcap, hlc, hka⟩ := hk.split
  obtain ⟨a', cap', rfl, hcap', hlc', hka'⟩ := hk'.split
  have hb0 : Below w.heap.size w ((w.alloc (.cells #[.int .i64 op, .int .i64 n, .string text, .slice a parts.length cap] 35)).alloc (.cells #[.int .i64 op', .int .i64 n', .string text', .slice a' parts'.length cap'] 35)) := ((Below.refl w.heap.size w).alloc (Nat.le_refl _) _).alloc (by simp) _
  have hx1 := bget' ((Below.refl _ _).alloc (Nat.le_refl _) (.cells #[.int .i64 op', .int .i64 n', .string text', .slice a' parts'.length cap'] 35)) (heap_alloc_new w (.cells #[.int .i64 op, .int .i64 n, .string text, .slice a parts.length cap] 35))
  have hx2 := heap_alloc_new (w.alloc (.cells #[.int .i64 op, .int .i64 n, .string text, .slice a parts.length cap] 35)) (.cells #[.int .i64 op', .int .i64 n', .string text', .slice a' parts'.length cap'] 35)
  have hsz := size_alloc2 w (.cells #[.int .i64 op, .int .i64 n, .string text, .slice a parts.length cap] 35) (.cells #[.int .i64 op', .int .i64 n', .string text', .slice a' parts'.length cap'] 35)
  rw [World.size_alloc] at hx2
  unfold maxLen at hcap hcap'
  have hr : eqP (.mk op n text parts) (.mk op' n' text' parts') = ((op == op') && (n == n') && (text.toList == text'.toList) && eqPs parts parts') := by conv => lhs; unfold eqP
  have HR := Lib.hid hr; have HKA := Lib.hid hka; have HKA' := Lib.hid hka'; have HX1 := Lib.hid hx1; have HX2 := Lib.hid hx2; have HB0 := Lib.hid hb0; have HSZ := Lib.hid hsz
  obtain ⟨c0, c1, c2, c3⟩ := cells4 hx1
  obtain ⟨d0, d1, d2, d3⟩ := cells4 hx2
  clear hk hk' hka hka' hr hb0 hx1 hx2 hsz
  by_cases h1 : op = op'
  case neg =>
    have HF := Lib.hid (show eqP (.mk op n text parts) (.mk op' n' text' parts') = false by rw [HR.out]; simp [h1])
    clear HR
    go_enter Tryz.func104, Tryz.ntmps104
    go_wp2
    all_goals (go_ret; exact ⟨ret_bool HF.out.symm, HB0.out⟩)
  by_cases h2 : n = n'
  case neg =>
    have HF := Lib.hid (show eqP (.mk op n text parts) (.mk op' n' text' parts') = false by rw [HR.out]; simp [h2])
    subst h1
    clear HR
    go_enter Tryz.func104, Tryz.ntmps104
    go_wp2
    all_goals (go_ret; exact ⟨ret_bool HF.out.symm, HB0.out⟩)
  subst h1 h2
  cases h3 : (text.toList == text'.toList)
  case false =>
    have HF := Lib.hid (show eqP (.mk op n text parts) (.mk op n text' parts') = false by rw [HR.out, h3]; simp)
    clear HR
    go_enter Tryz.func104, Tryz.ntmps104
    go_wp2
    all_goals (go_ret; exact ⟨ret_bool HF.out.symm, HB0.out⟩)
  by_cases hne : parts.length = parts'.length
  case neg =>
    have HF := Lib.hid (show eqP (.mk op n text parts) (.mk op n text' parts') = false by rw [HR.out, eqPs_len _ _ hne]; simp)
    have hni : ¬ (parts.length : Int) = (parts'.length : Int) := by omega
    clear HR hne
    go_enter Tryz.func104, Tryz.ntmps104
    go_wp2
    all_goals (go_ret; exact ⟨ret_bool HF.out.symm, HB0.out⟩)
  have hni : (parts.length : Int) = (parts'.length : Int) := by omega
  have HR2 := Lib.hid (show eqP (.mk op n text parts) (.mk op n text' parts') = eqPs parts parts' by rw [HR.out, h3]; simp)
  have HNE := Lib.hid hne
  clear HR hne
  go_enter Tryz.func104, Tryz.ntmps104
  go_wp2
  go_loopw [5] (fun i wr => ∃ k : Nat, k ≤ parts.length ∧ i = .int .i64 k ∧ Hid (eqPs parts parts' = eqPs (parts.drop k) (parts'.drop k)) ∧ Below (w.heap.size + 2) ((w.alloc (.cells #[.int .i64 op, .int .i64 n, .string text, .slice a parts.length cap] 35)).alloc (.cells #[.int .i64 op, .int .i64 n, .string text', .slice a' parts'.length cap'] 35)) wr) (fun i _ => parts.length - (intOf i).toNat)
  case atStart => exact ⟨0, Nat.zero_le _, rfl, rfl, Below.refl _ _⟩
  case round =>
    obtain ⟨k, hk, rfl, HP, hB⟩ := hrel
    have hhn := HNE.out
    clear c0 c1 c2 c3 d0 d1 d2 d3
    have hx1 := bget hB HX1.out (by omega)
    have hx2 := bget hB HX2.out (by omega)
    obtain ⟨c0, c1, c2, c3⟩ := cells4 hx1
    obtain ⟨d0, d1, d2, d3⟩ := cells4 hx2
    have hbw : Below w.heap.size w wr := HB0.out.trans (hB.mono (by omega))
    have hsz : w.heap.size + 2 ≤ wr.heap.size := by have := hB.size; have := HSZ.out; omega
    by_cases hlt : k < parts.length
    · have hlt2 : k < parts'.length := by omega
      have hlti : (k : Int) < (parts.length : Int) := by omega
      have hlti2 : (k : Int) < (parts'.length : Int) := by omega
      obtain ⟨b, o, rfl, hbn, hps⟩ := HKA.out (by omega)
      obtain ⟨b', o', rfl, hbn', hps'⟩ := HKA'.out (by omega)
      obtain ⟨e0, e1, e2, e3, g0, g1, g2, g3, ht⟩ := PtsAt.get parts b o hps k hlt
      obtain ⟨f0, f1, f2, f3, i0, i1, i2, i3, ht'⟩ := PtsAt.get parts' b' o' hps' k hlt2
      obtain ⟨oo, nn, tt, ka, kn, kc, rfl, rfl, rfl, rfl⟩ := ht.shape
      obtain ⟨oo', nn', tt', ka', kn', kc', rfl, rfl, rfl, rfl⟩ := ht'.shape
      have q0 := (hbw.cell (p := ⟨b, _, none⟩) hbn).trans g0
      have q1 := (hbw.cell (p := ⟨b, _, none⟩) hbn).trans g1
      have q2 := (hbw.cell (p := ⟨b, _, none⟩) hbn).trans g2
      have q3 := (hbw.cell (p := ⟨b, _, none⟩) hbn).trans g3
      have r0 := (hbw.cell (p := ⟨b', _, none⟩) hbn').trans i0
      have r1 := (hbw.cell (p := ⟨b', _, none⟩) hbn').trans i1
      have r2 := (hbw.cell (p := ⟨b', _, none⟩) hbn').trans i2
      have r3 := (hbw.cell (p := ⟨b', _, none⟩) hbn').trans i3
      have HC := Lib.hid fun (V : World) (hb : Below wr.heap.size wr V) => HIH.out _ (kid_ltP k hlt) parts[k] rfl parts'[k] _ _ V (PtAt.keep (hbw.trans (hb.mono hbw.size)) (Nat.le_trans hbw.size hb.size) _ _ ht) (PtAt.keep (hbw.trans (hb.mono hbw.size)) (Nat.le_trans hbw.size hb.size) _ _ ht')
      have HB := Lib.hid hB
      have HD := Lib.hid (eqPs_drop parts parts' k hlt hlt2)
      clear hB hx1 hx2 hbw g0 g1 g2 g3 i0 i1 i2 i3 ht ht' hps hps' hhn
      go_wp2_with fail
      go_region_with (go_at_call 104; refine (HC.out _ (by first | exact Below.refl _ _ | exact below_drew _ _ | exact below_drewN (Below.refl _ _) _)).mono ?_; rintro e w1 ⟨rfl, hb1⟩)
      all_goals (
        first | have HB1 := Lib.hid (HB.out.trans (hb1.mono hsz)) | have HB1 := Lib.hid ((HB.out.trans (below_drew _ _)).trans (hb1.mono hsz)) | have HB1 := Lib.hid ((below_drewN HB.out _).trans (hb1.mono hsz))
        clear hb1 HC c0 c1 c2 c3 d0 d1 d2 d3 q0 q1 q2 q3 r0 r1 r2 r3
        cases he : eqP parts[k] parts'[k]
        · have HF := Lib.hid (show eqP (.mk op n text parts) (.mk op n text' parts') = false by rw [HR2.out, HP.out, HD.out, he]; rfl)
          clear he
          go_wp2
          go_ret
          exact ⟨ret_bool HF.out.symm, HB0.out.trans (HB1.out.mono (by omega))⟩
        · have HF := Lib.hid (show eqPs parts parts' = eqPs (parts.drop (k + 1)) (parts'.drop (k + 1)) by rw [HP.out, HD.out, he]; rfl)
          clear he
          go_wp2
          go_roundw
          case rel => exact ⟨k + 1, by omega, by go_num, HF.out, HB1.out⟩
          case measure => simp [intOf]; omega)
    · obtain rfl : k = parts.length := by omega
      have HF := Lib.hid (show eqP (.mk op n text parts) (.mk op n text' parts') = true by rw [HR2.out, HP.out, List.drop_length, hhn, List.drop_length]; rfl)
      have HBW := Lib.hid hbw
      clear hB hhn hbw hx1 hx2
      go_wp2
      go_ret
      exact ⟨ret_bool HF.out.symm, HBW.out⟩

end Go.Proofs.YtjpahjfjpkbcnaaGreat

/- Whether two terms are the same, by the specification. -/
namespace Go.Proofs.YtjpahjfjpkbcnaaGreat
open Go.Proofs Go.RowKit

set_option maxHeartbeats 16000000 in
set_option maxRecDepth 100000 in
theorem Same_any (p : Tm) : ∀ (q : Tm) (v v' : Value) (w : World), TmAt w.heap.size w p v → TmAt w.heap.size w q v' →
    Calls Tryz.prog 45 #[v, v'] w fun e w' => e = .returned (.bool (eqM p q)) ∧ Below w.heap.size w w' := by
  induction hT : SizeOf.sizeOf p using Nat.strongRecOn generalizing p with
  | _ m ih =>
  subst hT
  intro q v v' w hv hv'
  have HIH := Lib.hid ih; clear ih
  cases p with
  | mk op n text kids pats =>
  cases q with
  | mk op' n' text' kids' pats' =>
  unfold TmAt at hv hv'
  obtain ⟨kv, pv, rfl, htx, hk, hp⟩ := hv
  obtain ⟨kv', pv', rfl, htx', hk', hp'⟩ := hv'
  obtain ⟨a, cap, rfl, hcap, hlc, hka⟩ := hk.split
  obtain ⟨pa, pcap, rfl, hpcap, hplc, hpa⟩ := hp.split
  obtain ⟨a', cap', rfl, hcap', hlc', hka'⟩ := hk'.split
  obtain ⟨pa', pcap', rfl, hpcap', hplc', hpa'⟩ := hp'.split
  have hb0 : Below w.heap.size w ((w.alloc (.cells #[.int .i64 op, .int .i64 n, .string text, .slice a kids.length cap, .slice pa pats.length pcap] 32)).alloc (.cells #[.int .i64 op', .int .i64 n', .string text', .slice a' kids'.length cap', .slice pa' pats'.length pcap'] 32)) := ((Below.refl w.heap.size w).alloc (Nat.le_refl _) _).alloc (by simp) _
  have hx1 := bget' ((Below.refl _ _).alloc (Nat.le_refl _) (.cells #[.int .i64 op', .int .i64 n', .string text', .slice a' kids'.length cap', .slice pa' pats'.length pcap'] 32)) (heap_alloc_new w (.cells #[.int .i64 op, .int .i64 n, .string text, .slice a kids.length cap, .slice pa pats.length pcap] 32))
  have hx2 := heap_alloc_new (w.alloc (.cells #[.int .i64 op, .int .i64 n, .string text, .slice a kids.length cap, .slice pa pats.length pcap] 32)) (.cells #[.int .i64 op', .int .i64 n', .string text', .slice a' kids'.length cap', .slice pa' pats'.length pcap'] 32)
  have hsz := size_alloc2 w (.cells #[.int .i64 op, .int .i64 n, .string text, .slice a kids.length cap, .slice pa pats.length pcap] 32) (.cells #[.int .i64 op', .int .i64 n', .string text', .slice a' kids'.length cap', .slice pa' pats'.length pcap'] 32)
  rw [World.size_alloc] at hx2
  unfold maxLen at hcap hcap' hpcap hpcap'
  have hr : eqM (.mk op n text kids pats) (.mk op' n' text' kids' pats') = ((op == op') && (n == n') && (text.toList == text'.toList) && eqMs kids kids' && eqPs pats pats') := by conv => lhs; unfold eqM
  have HR := Lib.hid hr; have HKA := Lib.hid hka; have HKA' := Lib.hid hka'; have HPA := Lib.hid hpa; have HPA' := Lib.hid hpa'; have HX1 := Lib.hid hx1; have HX2 := Lib.hid hx2; have HB0 := Lib.hid hb0; have HSZ := Lib.hid hsz
  obtain ⟨c0, c1, c2, c3, c4⟩ := cells5 hx1
  obtain ⟨d0, d1, d2, d3, d4⟩ := cells5 hx2
  clear hk hk' hka hka' hp hp' hpa hpa' hr hb0 hx1 hx2 hsz
  by_cases h1 : op = op'
  case neg =>
    have HF := Lib.hid (show eqM (.mk op n text kids pats) (.mk op' n' text' kids' pats') = false by rw [HR.out]; simp [h1])
    clear HR
    go_enter Tryz.func45, Tryz.ntmps45
    go_wp2
    all_goals (go_ret; exact ⟨ret_bool HF.out.symm, HB0.out⟩)
  by_cases h2 : n = n'
  case neg =>
    have HF := Lib.hid (show eqM (.mk op n text kids pats) (.mk op' n' text' kids' pats') = false by rw [HR.out]; simp [h2])
    subst h1
    clear HR
    go_enter Tryz.func45, Tryz.ntmps45
    go_wp2
    all_goals (go_ret; exact ⟨ret_bool HF.out.symm, HB0.out⟩)
  subst h1 h2
  cases h3 : (text.toList == text'.toList)
  case false =>
    have HF := Lib.hid (show eqM (.mk op n text kids pats) (.mk op n text' kids' pats') = false by rw [HR.out, h3]; simp)
    clear HR
    go_enter Tryz.func45, Tryz.ntmps45
    go_wp2
    all_goals (go_ret; exact ⟨ret_bool HF.out.symm, HB0.out⟩)
  by_cases hne : kids.length = kids'.length
  case neg =>
    have HF := Lib.hid (show eqM (.mk op n text kids pats) (.mk op n text' kids' pats') = false by rw [HR.out, eqMs_len _ _ hne]; simp)
    have hni : ¬ (kids.length : Int) = (kids'.length : Int) := by omega
    clear hne
    clear HR
    go_enter Tryz.func45, Tryz.ntmps45
    go_wp2
    all_goals (go_ret; exact ⟨ret_bool HF.out.symm, HB0.out⟩)
  by_cases hnp : pats.length = pats'.length
  case neg =>
    have HF := Lib.hid (show eqM (.mk op n text kids pats) (.mk op n text' kids' pats') = false by rw [HR.out, eqPs_len _ _ hnp]; simp)
    have hni : (kids.length : Int) = (kids'.length : Int) := by omega
    have hpi : ¬ (pats.length : Int) = (pats'.length : Int) := by omega
    clear hne hnp
    clear HR
    go_enter Tryz.func45, Tryz.ntmps45
    go_wp2
    all_goals (go_ret; exact ⟨ret_bool HF.out.symm, HB0.out⟩)
  have hni : (kids.length : Int) = (kids'.length : Int) := by omega
  have hpi : (pats.length : Int) = (pats'.length : Int) := by omega
  have HR2 := Lib.hid (show eqM (.mk op n text kids pats) (.mk op n text' kids' pats') = (eqMs kids kids' && eqPs pats pats') by rw [HR.out, h3]; simp)
  have HNE := Lib.hid hne; have HNP := Lib.hid hnp
  clear HR hne hnp
  go_enter Tryz.func45, Tryz.ntmps45
  go_wp2
  go_loopw [5] (fun i wr => ∃ k : Nat, k ≤ pats.length ∧ i = .int .i64 k ∧ Hid (eqPs pats pats' = eqPs (pats.drop k) (pats'.drop k)) ∧ Below (w.heap.size + 2) ((w.alloc (.cells #[.int .i64 op, .int .i64 n, .string text, .slice a kids.length cap, .slice pa pats.length pcap] 32)).alloc (.cells #[.int .i64 op, .int .i64 n, .string text', .slice a' kids'.length cap', .slice pa' pats'.length pcap'] 32)) wr) (fun i _ => pats.length - (intOf i).toNat)
  case atStart => exact ⟨0, Nat.zero_le _, rfl, rfl, Below.refl _ _⟩
  case round =>
    obtain ⟨k, hk, rfl, HP, hB⟩ := hrel
    have hhn := HNP.out
    clear c0 c1 c2 c3 c4 d0 d1 d2 d3 d4
    have hx1 := bget hB HX1.out (by omega)
    have hx2 := bget hB HX2.out (by omega)
    obtain ⟨c0, c1, c2, c3, c4⟩ := cells5 hx1
    obtain ⟨d0, d1, d2, d3, d4⟩ := cells5 hx2
    have hbw : Below w.heap.size w wr := HB0.out.trans (hB.mono (by omega))
    have hsz : w.heap.size + 2 ≤ wr.heap.size := by have := hB.size; have := HSZ.out; omega
    by_cases hlt : k < pats.length
    · have hlt2 : k < pats'.length := by omega
      have hlti : (k : Int) < (pats.length : Int) := by omega
      have hlti2 : (k : Int) < (pats'.length : Int) := by omega
      obtain ⟨b, o, rfl, hbn, hps⟩ := HPA.out (by omega)
      obtain ⟨b', o', rfl, hbn', hps'⟩ := HPA'.out (by omega)
      obtain ⟨e0, e1, e2, e3, g0, g1, g2, g3, ht⟩ := PtsAt.get pats b o hps k hlt
      obtain ⟨f0, f1, f2, f3, i0, i1, i2, i3, ht'⟩ := PtsAt.get pats' b' o' hps' k hlt2
      obtain ⟨oo, nn, tt, ka, kn, kc, rfl, rfl, rfl, rfl⟩ := ht.shape
      obtain ⟨oo', nn', tt', ka', kn', kc', rfl, rfl, rfl, rfl⟩ := ht'.shape
      have q0 := (hbw.cell (p := ⟨b, _, none⟩) hbn).trans g0
      have q1 := (hbw.cell (p := ⟨b, _, none⟩) hbn).trans g1
      have q2 := (hbw.cell (p := ⟨b, _, none⟩) hbn).trans g2
      have q3 := (hbw.cell (p := ⟨b, _, none⟩) hbn).trans g3
      have r0 := (hbw.cell (p := ⟨b', _, none⟩) hbn').trans i0
      have r1 := (hbw.cell (p := ⟨b', _, none⟩) hbn').trans i1
      have r2 := (hbw.cell (p := ⟨b', _, none⟩) hbn').trans i2
      have r3 := (hbw.cell (p := ⟨b', _, none⟩) hbn').trans i3
      have HC := Lib.hid fun (V : World) (hb : Below wr.heap.size wr V) => SamePat_any pats[k] pats'[k] _ _ V (PtAt.keep (hbw.trans (hb.mono hbw.size)) (Nat.le_trans hbw.size hb.size) _ _ ht) (PtAt.keep (hbw.trans (hb.mono hbw.size)) (Nat.le_trans hbw.size hb.size) _ _ ht')
      have HB := Lib.hid hB
      have HD := Lib.hid (eqPs_drop pats pats' k hlt hlt2)
      clear hB hx1 hx2 hbw g0 g1 g2 g3 i0 i1 i2 i3 ht ht' hps hps' hhn
      go_wp2_with fail
      go_region_with (go_at_call 104; refine (HC.out _ (by first | exact Below.refl _ _ | exact below_drew _ _ | exact below_drewN (Below.refl _ _) _)).mono ?_; rintro e w1 ⟨rfl, hb1⟩)
      all_goals (
        first | have HB1 := Lib.hid (HB.out.trans (hb1.mono hsz)) | have HB1 := Lib.hid ((HB.out.trans (below_drew _ _)).trans (hb1.mono hsz)) | have HB1 := Lib.hid ((below_drewN HB.out _).trans (hb1.mono hsz))
        clear hb1 HC c0 c1 c2 c3 c4 d0 d1 d2 d3 d4 q0 q1 q2 q3 r0 r1 r2 r3
        cases he : eqP pats[k] pats'[k]
        · have HF := Lib.hid (show eqM (.mk op n text kids pats) (.mk op n text' kids' pats') = false by rw [HR2.out, HP.out, HD.out, he]; simp)
          clear he
          go_wp2
          go_ret
          exact ⟨ret_bool HF.out.symm, HB0.out.trans (HB1.out.mono (by omega))⟩
        · have HF := Lib.hid (show eqPs pats pats' = eqPs (pats.drop (k + 1)) (pats'.drop (k + 1)) by rw [HP.out, HD.out, he]; rfl)
          clear he
          go_wp2
          go_roundw
          case rel => exact ⟨k + 1, by omega, by go_num, HF.out, HB1.out⟩
          case measure => simp [intOf]; omega)
    · obtain rfl : k = pats.length := by omega
      have HR3 := Lib.hid (show eqM (.mk op n text kids pats) (.mk op n text' kids' pats') = eqMs kids kids' by rw [HR2.out, HP.out, List.drop_length, hhn, List.drop_length]; show (_ && true) = _; rw [Bool.and_true])
      have HB1 := Lib.hid hB
      clear hB hhn hbw hx1 hx2 hsz HP HR2 hpi
      generalize wr = wc at *
      go_wp2
      go_loopw [6] (fun i wr => ∃ k : Nat, k ≤ kids.length ∧ i = .int .i64 k ∧ Hid (eqMs kids kids' = eqMs (kids.drop k) (kids'.drop k)) ∧ Below (w.heap.size + 2) ((w.alloc (.cells #[.int .i64 op, .int .i64 n, .string text, .slice a kids.length cap, .slice pa pats.length pcap] 32)).alloc (.cells #[.int .i64 op, .int .i64 n, .string text', .slice a' kids'.length cap', .slice pa' pats'.length pcap'] 32)) wr) (fun i _ => kids.length - (intOf i).toNat)
      case atStart => exact ⟨0, Nat.zero_le _, rfl, rfl, HB1.out⟩
      case round =>
        obtain ⟨k, hk, rfl, HP, hB⟩ := hrel
        have hhn := HNE.out
        clear c0 c1 c2 c3 c4 d0 d1 d2 d3 d4 HB1
        have hx1 := bget hB HX1.out (by omega)
        have hx2 := bget hB HX2.out (by omega)
        obtain ⟨c0, c1, c2, c3, c4⟩ := cells5 hx1
        obtain ⟨d0, d1, d2, d3, d4⟩ := cells5 hx2
        have hbw : Below w.heap.size w wr := HB0.out.trans (hB.mono (by omega))
        have hsz : w.heap.size + 2 ≤ wr.heap.size := by have := hB.size; have := HSZ.out; omega
        by_cases hlt : k < kids.length
        · have hlt2 : k < kids'.length := by omega
          have hlti : (k : Int) < (kids.length : Int) := by omega
          have hlti2 : (k : Int) < (kids'.length : Int) := by omega
          obtain ⟨b, o, rfl, hbn, hps⟩ := HKA.out (by omega)
          obtain ⟨b', o', rfl, hbn', hps'⟩ := HKA'.out (by omega)
          obtain ⟨e0, e1, e2, e3, e4, g0, g1, g2, g3, g4, ht⟩ := TmsAt.get kids b o hps k hlt
          obtain ⟨f0, f1, f2, f3, f4, i0, i1, i2, i3, i4, ht'⟩ := TmsAt.get kids' b' o' hps' k hlt2
          obtain ⟨oo, nn, tt, ka, kn, kc, la, ln, lc, rfl, rfl, rfl, rfl, rfl⟩ := ht.shape
          obtain ⟨oo', nn', tt', ka', kn', kc', la', ln', lc', rfl, rfl, rfl, rfl, rfl⟩ := ht'.shape
          have q0 := (hbw.cell (p := ⟨b, _, none⟩) hbn).trans g0
          have q1 := (hbw.cell (p := ⟨b, _, none⟩) hbn).trans g1
          have q2 := (hbw.cell (p := ⟨b, _, none⟩) hbn).trans g2
          have q3 := (hbw.cell (p := ⟨b, _, none⟩) hbn).trans g3
          have q4 := (hbw.cell (p := ⟨b, _, none⟩) hbn).trans g4
          have r0 := (hbw.cell (p := ⟨b', _, none⟩) hbn').trans i0
          have r1 := (hbw.cell (p := ⟨b', _, none⟩) hbn').trans i1
          have r2 := (hbw.cell (p := ⟨b', _, none⟩) hbn').trans i2
          have r3 := (hbw.cell (p := ⟨b', _, none⟩) hbn').trans i3
          have r4 := (hbw.cell (p := ⟨b', _, none⟩) hbn').trans i4
          have HC := Lib.hid fun (V : World) (hb : Below wr.heap.size wr V) => HIH.out _ (kid_lt k hlt) kids[k] rfl kids'[k] _ _ V (TmAt.keep (hbw.trans (hb.mono hbw.size)) (Nat.le_trans hbw.size hb.size) _ _ ht) (TmAt.keep (hbw.trans (hb.mono hbw.size)) (Nat.le_trans hbw.size hb.size) _ _ ht')
          have HB := Lib.hid hB
          have HD := Lib.hid (eqMs_drop kids kids' k hlt hlt2)
          clear hB hx1 hx2 hbw g0 g1 g2 g3 g4 i0 i1 i2 i3 i4 ht ht' hps hps' hhn
          go_wp2_with fail
          go_region_with (go_at_call 45; refine (HC.out _ (by first | exact Below.refl _ _ | exact below_drew _ _ | exact below_drewN (Below.refl _ _) _)).mono ?_; rintro e w1 ⟨rfl, hb1⟩)
          all_goals (
            first | have HB1 := Lib.hid (HB.out.trans (hb1.mono hsz)) | have HB1 := Lib.hid ((HB.out.trans (below_drew _ _)).trans (hb1.mono hsz)) | have HB1 := Lib.hid ((below_drewN HB.out _).trans (hb1.mono hsz))
            clear hb1 HC c0 c1 c2 c3 c4 d0 d1 d2 d3 d4 q0 q1 q2 q3 q4 r0 r1 r2 r3 r4
            cases he : eqM kids[k] kids'[k]
            · have HF := Lib.hid (show eqM (.mk op n text kids pats) (.mk op n text' kids' pats') = false by rw [HR3.out, HP.out, HD.out, he]; rfl)
              clear he
              go_wp2
              go_ret
              exact ⟨ret_bool HF.out.symm, HB0.out.trans (HB1.out.mono (by omega))⟩
            · have HF := Lib.hid (show eqMs kids kids' = eqMs (kids.drop (k + 1)) (kids'.drop (k + 1)) by rw [HP.out, HD.out, he]; rfl)
              clear he
              go_wp2
              go_roundw
              case rel => exact ⟨k + 1, by omega, by go_num, HF.out, HB1.out⟩
              case measure => simp [intOf]; omega)
        · obtain rfl : k = kids.length := by omega
          have HF := Lib.hid (show eqM (.mk op n text kids pats) (.mk op n text' kids' pats') = true by rw [HR3.out, HP.out, List.drop_length, hhn, List.drop_length]; rfl)
          have HBW := Lib.hid hbw
          clear hB hhn hbw hx1 hx2
          go_wp2
          go_ret
          exact ⟨ret_bool HF.out.symm, HBW.out⟩

end Go.Proofs.YtjpahjfjpkbcnaaGreat

/- Whether a term is the zero value. -/
namespace Go.Proofs.YtjpahjfjpkbcnaaGreat
open Go.Proofs Go.RowKit

def zeroM : Tm := .mk 0 0 ⟨#[]⟩ [] []
theorem zeroM_at (n₀ : Nat) (w : World) : TmAt n₀ w zeroM (.agg #[.int .i64 0, .int .i64 0, .string ⟨#[]⟩, .slice none 0 0, .slice none 0 0]) := by
  unfold zeroM TmAt
  exact ⟨_, _, rfl, Nat.zero_le _, .inl ⟨rfl, none, 0, rfl, Nat.zero_le _⟩, .inl ⟨rfl, none, 0, rfl, Nat.zero_le _⟩⟩

set_option maxHeartbeats 1000000 in
theorem none_any (p : Tm) (v : Value) (w : World) (hv : TmAt w.heap.size w p v) :
    Calls Tryz.prog 41 #[v] w fun e w' => e = .returned (.bool (eqM p zeroM)) ∧ Below w.heap.size w w' := by
  obtain ⟨a, cap, a', cap', rfl, -⟩ := hv.parts
  have hb0 := (Below.refl w.heap.size w).alloc (Nat.le_refl _) (.cells #[.int .i64 p.op, .int .i64 p.n, .string p.text, .slice a p.kids.length cap, .slice a' p.pats.length cap'] 32)
  have hbx := heap_alloc_new w (.cells #[.int .i64 p.op, .int .i64 p.n, .string p.text, .slice a p.kids.length cap, .slice a' p.pats.length cap'] 32)
  have HC := Lib.hid (Same_any p zeroM _ _ _ (TmAt.keep hb0 hb0.size _ _ hv) (zeroM_at _ _))
  have HB := Lib.hid hb0
  obtain ⟨c0, c1, c2, c3, c4⟩ := cells5 hbx
  clear hv hb0 hbx
  go_enter Tryz.func41, Tryz.ntmps41
  go_wp2_with fail
  refine HC.out.mono ?_
  rintro e w1 ⟨rfl, hb1⟩
  go_wp2
  go_ret
  exact ⟨rfl, HB.out.trans (hb1.mono HB.out.size)⟩

end Go.Proofs.YtjpahjfjpkbcnaaGreat

/- The part of a term to which a path leads, by the specification. -/
namespace Go.Proofs.YtjpahjfjpkbcnaaGreat
open Go.Proofs Go.RowKit

/-- What the specification's At ends with. -/
def RefAtEnd (p : Tm) (path : List Int) (n₀ : Nat) (e : Ending) (W' : World) : Prop :=
  match atM p path with
  | some q => ∃ v, e = .returned (.tuple #[v, .bool true]) ∧ TmAt n₀ W' q v
  | none => e = .returned (.tuple #[zeroV, .bool false])

set_option maxHeartbeats 4000000 in
set_option maxRecDepth 100000 in
theorem refAt_any (p : Tm) (v pv : Value) (path : List Int) (w : World) (hp : TmAt w.heap.size w p v) (hpv : SlV w.heap.size pv path.length fun b o => IntsAt w path b o) (hl : path.length ≤ 1000000) :
    Calls Tryz.prog 44 #[v, pv] w fun e w' => RefAtEnd p path w.heap.size e w' ∧ Below w.heap.size w w' := by
  obtain ⟨a, cap, a', cap', rfl, htx, -, -⟩ := hp.parts
  obtain ⟨pa, pcap, rfl, hpc, hplc, hpa⟩ := hpv.split
  have hb1 : Below w.heap.size w ((w.alloc (.cells #[.int .i64 p.op, .int .i64 p.n, .string p.text, .slice a p.kids.length cap, .slice a' p.pats.length cap'] 32)).alloc (.cells #[.int .i64 0, .int .i64 0, .string ⟨#[]⟩, .slice none 0 0, .slice none 0 0] 32)) := ((Below.refl w.heap.size w).alloc (Nat.le_refl _) _).alloc (by simp) _
  have hp1 := TmAt.keep hb1 (Nat.le_refl _) _ _ hp
  have hbx := bget' ((Below.refl _ _).alloc (Nat.le_refl _) (.cells #[.int .i64 0, .int .i64 0, .string ⟨#[]⟩, .slice none 0 0, .slice none 0 0] 32)) (heap_alloc_new w (.cells #[.int .i64 p.op, .int .i64 p.n, .string p.text, .slice a p.kids.length cap, .slice a' p.pats.length cap'] 32))
  have hbz := heap_alloc_new (w.alloc (.cells #[.int .i64 p.op, .int .i64 p.n, .string p.text, .slice a p.kids.length cap, .slice a' p.pats.length cap'] 32)) (.cells #[.int .i64 0, .int .i64 0, .string ⟨#[]⟩, .slice none 0 0, .slice none 0 0] 32)
  rw [World.size_alloc] at hbz
  have HP := Lib.hid hp1; have HPA := Lib.hid hpa; have HB1 := Lib.hid hb1; have HBX := Lib.hid hbx; have HBZ := Lib.hid hbz
  clear hp hpv hpa hp1 hb1 hbx hbz
  unfold maxLen at hpc
  go_enter Tryz.func44, Tryz.ntmps44
  go_wp2
  go_loopw [6] (fun i wr => ∃ (k : Nat) (q : Tm) (qa : Option Addr) (qc : Nat) (qa' : Option Addr) (qc' : Nat), k ≤ path.length ∧ i = .int .i64 k ∧ Hid (atM p path = atM q (path.drop k)) ∧
    wr.heap[w.heap.size]? = some (.cells #[.int .i64 q.op, .int .i64 q.n, .string q.text, .slice qa q.kids.length qc, .slice qa' q.pats.length qc'] 32 (0, 0)) ∧
    wr.heap[w.heap.size + 1]? = some (.cells #[.int .i64 0, .int .i64 0, .string ⟨#[]⟩, .slice none 0 0, .slice none 0 0] 32 (0, 0)) ∧
    Hid (TmAt w.heap.size wr q (.agg #[.int .i64 q.op, .int .i64 q.n, .string q.text, .slice qa q.kids.length qc, .slice qa' q.pats.length qc'])) ∧ Below w.heap.size w wr) (fun i _ => path.length - (intOf i).toNat)
  case atStart => exact ⟨0, p, a, cap, a', cap', Nat.zero_le _, rfl, rfl, HBX.out, HBZ.out, HP.out, HB1.out⟩
  case round =>
    obtain ⟨k, q, qa, qc, qa', qc', hk, rfl, HA, hbox, hbz, HQ, hB⟩ := hrel
    have hwlt := lt_of_block hbox
    have hwlt2 := lt_of_block hbz
    by_cases hlt : k < path.length
    · have hlti : (k : Int) < (path.length : Int) := by omega
      obtain ⟨b, o, rfl, hbn, hss⟩ := HPA.out (by omega)
      have hg := (hB.cell (p := ⟨b, _, none⟩) hbn).trans (IntsAt.get path b o hss k hlt)
      obtain ⟨y0, y1, y2, y3, y4⟩ := cells5 hbox
      have ff := free_box hbox
      obtain ⟨_, _, _, _, heq, -, hqk, -⟩ := HQ.out.parts
      have hqk' : SlV w.heap.size (.slice qa q.kids.length qc) q.kids.length fun b o => TmsAt w.heap.size wr q.kids b o := by
        simp only [Value.agg.injEq, Array.mk.injEq, List.cons.injEq, Value.slice.injEq] at heq
        obtain ⟨-, -, -, ⟨rfl, -, rfl⟩, -⟩ := heq
        exact hqk
      obtain ⟨qb, qcap, heq2, hqc, hqlc, hqka⟩ := hqk'.split
      cases heq2
      unfold maxLen at hqc
      have HBOX := Lib.hid hbox; have HZ := Lib.hid hbz; have HB := Lib.hid hB; have HQK := Lib.hid hqka
      have HSS := Lib.hid hss
      clear hbox hB heq hqk hqk' hqka hss hbz
      obtain ⟨x, hx⟩ : ∃ x, path[k] = x := ⟨_, rfl⟩
      have HXK := Lib.hid hx
      rw [hx] at hg
      clear hx
      go_wp2_with fail
      go_region_with (go_at_call 97; refine (in_any' _ _ _ _).mono ?_; rintro e w1 ⟨rfl, hb1⟩)
      all_goals (
        have hwd : Below w.heap.size w w1 := (HB.out.trans (below_drew _ _)).trans (hb1.mono (Nat.le_of_lt hwlt))
        have hbox1 := bget' hb1 (show wr.drew.heap[w.heap.size]? = some _ from HBOX.out)
        have hbz1 := bget' hb1 (show wr.drew.heap[w.heap.size + 1]? = some _ from HZ.out)
        have hwdr : Below w.heap.size wr w1 := (below_drew _ wr).trans (hb1.mono (Nat.le_of_lt hwlt))
        have hwrap : IntKind.i64.wrap ((q.kids.length : Int) - 1) = (q.kids.length : Int) - 1 := by rw [IntKind.wrap_i64]; omega
        rw [hwrap]
        clear hwrap y0 y1 y2 y3 y4 ff hg
        have hg := (hwd.cell (p := ⟨b, _, none⟩) hbn).trans (IntsAt.get path b o HSS.out k hlt)
        rw [HXK.out] at hg
        obtain ⟨y0, y1, y2, y3, y4⟩ := cells5 hbox1
        have ff := free_box hbox1
        obtain ⟨z0, z1, z2, z3, z4⟩ := cells5 hbz1
        have fz := free_box hbz1
        by_cases hin : 0 ≤ x ∧ x.toNat < q.kids.length
        · have hi : inB x 0 ((q.kids.length : Int) - 1) = true := by unfold inB; rw [decide_eq_true (by omega), decide_eq_true (by omega)]; rfl
          rw [hi]
          obtain ⟨n, rfl⟩ := Int.eq_ofNat_of_zero_le hin.1
          have hx1 : n < q.kids.length := by have := hin.2; simpa using this
          have hx1i : (n : Int) < (q.kids.length : Int) := by omega
          have HD := Lib.hid (atM_yes q path k n hlt HXK.out hx1)
          obtain ⟨kb, ko, rfl, hkb, hks⟩ := HQK.out (by omega)
          have hks1 := TmsAt.keep hwdr (Nat.le_refl _) _ _ _ hkb hks
          obtain ⟨c0, c1, c2, c3, c4, g0, g1, g2, g3, g4, ht⟩ := TmsAt.get q.kids kb ko hks1 n hx1
          obtain ⟨ra, rc, ra', rc', hre, -, -, -⟩ := ht.parts
          simp only [Value.agg.injEq, Array.mk.injEq, List.cons.injEq] at hre
          obtain ⟨rfl, rfl, rfl, rfl, rfl, -⟩ := hre
          have HT := Lib.hid ht; have HWD := Lib.hid hwd
          clear ht hks hks1 hin hwd
          go_wp2_with fail
          go_region_with (fail)
          all_goals (
            go_wp2
            go_roundw
            case rel =>
              have hkp := kept5 w1 w.heap.size (.int .i64 q.kids[n].op) (.int .i64 q.kids[n].n) (.string q.kids[n].text) (.slice ra q.kids[n].kids.length rc) (.slice ra' q.kids[n].pats.length rc')
              have hsw := HWD.out.size
              have hkb' := hkp.below (n₀ := w.heap.size) (by omega) (by rintro k rfl; omega)
              have hkd := hkb'.trans (below_drew w.heap.size _)
              have hfin := HWD.out.trans hkd
              have htm := Lib.hid (TmAt.keep hkd (Nat.le_refl _) _ _ HT.out)
              have hbs := box_set5 hbox1 (.int .i64 q.kids[n].op) (.int .i64 q.kids[n].n) (.string q.kids[n].text) (.slice ra q.kids[n].kids.length rc) (.slice ra' q.kids[n].pats.length rc')
              have hzs := hkp.get hbz1 (by omega)
              exact ⟨k + 1, q.kids[n], ra, rc, ra', rc', by omega, by go_num, by unfold Hid; rw [HA.out, HD.out], hbs, hzs, htm, hfin⟩
            case measure => simp [intOf]; omega)
        · have hi : inB x 0 ((q.kids.length : Int) - 1) = false := by
            unfold inB
            by_cases h0 : 0 ≤ x
            · rw [decide_eq_false (p := x ≤ _) (by omega), Bool.and_false]
            · rw [decide_eq_false h0, Bool.false_and]
          rw [hi]
          have HD := Lib.hid (atM_no q path k hlt (by rw [HXK.out]; exact hin))
          have HWD := Lib.hid hwd
          clear hwd
          go_wp2
          have hkp := kept5 w1 (w.heap.size + 1)
          have hsw := HWD.out.size
          refine bodyPost_ret (v := .tuple #[zeroV, .bool false]) (by simp [results, Tryz.results44, go_sem, z0, z1, z2, z3, z4, zeroV]) rfl ⟨?_, HWD.out.trans ((hkp _ _ _ _ _).below (by omega) (by rintro k rfl; omega))⟩
          unfold RefAtEnd
          rw [HA.out, HD.out])
    · have hnlt : ¬ (k : Int) < (path.length : Int) := by omega
      obtain ⟨y0, y1, y2, y3, y4⟩ := cells5 hbox
      have ff := free_box hbox
      obtain ⟨z0, z1, z2, z3, z4⟩ := cells5 hbz
      have fz := free_box hbz
      have hap : atM p path = some q := by rw [HA.out, List.drop_eq_nil_of_le (by omega)]; rfl
      have HAP := Lib.hid hap; have HB := Lib.hid hB; have HQ1 := Lib.hid (HQ.out)
      clear hap hB
      go_wp2
      have hkp := kept5 wr (w.heap.size + 1) (.int .i64 q.op) (.int .i64 q.n) (.string q.text) (.slice qa q.kids.length qc) (.slice qa' q.pats.length qc')
      have hsw := HB.out.size
      have hkb := hkp.below (n₀ := w.heap.size) (by omega) (by rintro k rfl; omega)
      refine bodyPost_ret (v := .tuple #[.agg #[.int .i64 q.op, .int .i64 q.n, .string q.text, .slice qa q.kids.length qc, .slice qa' q.pats.length qc'], .bool true]) (by simp [results, Tryz.results44, go_sem, z0, z1, z2, z3, z4]) rfl ⟨?_, HB.out.trans hkb⟩
      unfold RefAtEnd
      rw [HAP.out]
      exact ⟨_, rfl, TmAt.keep hkb (Nat.le_refl _) _ _ HQ1.out⟩

end Go.Proofs.YtjpahjfjpkbcnaaGreat

/- What is small can be looked at: lengths. -/
namespace Go.Proofs.YtjpahjfjpkbcnaaGreat
open Go.Proofs Go.RowKit

theorem len_partsP : ∀ (ps : List Pt) (d : Int), ps.length ≤ (partssP d ps).length
  | [], _ => Nat.zero_le _
  | .mk _ _ _ qs :: ps, d => by
    unfold partssP
    rw [List.length_append, List.length_cons]
    have := len_partsP ps d
    unfold partsP
    rw [List.length_cons]
    omega
theorem len_partsM : ∀ (ps : List Tm) (d : Int), ps.length ≤ (partssM d ps).length
  | [], _ => Nat.zero_le _
  | .mk _ _ _ _ _ :: ps, d => by
    unfold partssM
    rw [List.length_append, List.length_cons]
    have := len_partsM ps d
    unfold partsM
    rw [List.length_cons]
    omega
mutual
theorem lens_ofP : ∀ (p : Pt) (d : Int), (partsP d p).length ≤ 1000000 → lensP p
  | .mk _ _ _ ps, d, h => by
    unfold partsP at h
    rw [List.length_cons] at h
    have := len_partsP ps (d + 1)
    unfold lensP
    exact ⟨by omega, lens_ofsP ps (d + 1) (by omega)⟩
theorem lens_ofsP : ∀ (ps : List Pt) (d : Int), (partssP d ps).length ≤ 1000000 → lenssP ps
  | [], _, _ => by unfold lenssP; trivial
  | p :: ps, d, h => by
    unfold partssP at h
    rw [List.length_append] at h
    unfold lenssP
    exact ⟨lens_ofP p d (by omega), lens_ofsP ps d (by omega)⟩
end
theorem lens_smalls : ∀ (ps : List Pt), ps.all SmallPatB = true → lenssP ps
  | [], _ => by unfold lenssP; trivial
  | p :: ps, h => by
    rw [List.all_cons, Bool.and_eq_true] at h
    unfold lenssP
    exact ⟨lens_ofP p 1 (by have := SmallPat_len h.1; omega), lens_smalls ps h.2⟩
mutual
theorem lens_ofM : ∀ (p : Tm) (d : Int), (partsM d p).length ≤ 1000000 → smallT p = true → lensM p
  | .mk _ _ _ ks ps, d, h, hs => by
    unfold partsM at h
    rw [List.length_cons] at h
    have := len_partsM ks (d + 1)
    unfold smallT at hs
    simp only [Bool.and_eq_true, decide_eq_true_eq] at hs
    unfold lensM
    exact ⟨by omega, by omega, lens_smalls ps hs.1.2, lens_ofsM ks (d + 1) (by omega) hs.2⟩
theorem lens_ofsM : ∀ (ps : List Tm) (d : Int), (partssM d ps).length ≤ 1000000 → smallsT ps = true → lenssM ps
  | [], _, _, _ => by unfold lenssM; trivial
  | p :: ps, d, h, hs => by
    unfold partssM at h
    rw [List.length_append] at h
    unfold smallsT at hs
    rw [Bool.and_eq_true] at hs
    unfold lenssM
    exact ⟨lens_ofM p d (by omega) hs.1, lens_ofsM ps d (by omega) hs.2⟩
end
theorem SmallTerm_fit {T : Tm} (h : SmallTermB T = true) : Fit T := by
  have h1 := SmallTerm_ok h
  have h2 := h
  unfold SmallTermB at h2
  rw [Bool.and_eq_true] at h2
  exact ⟨h1.2.1, h1.1, lens_ofM T 1 (by omega) h2.2⟩
end Go.Proofs.YtjpahjfjpkbcnaaGreat

/- Copies whose parts lie apart: what is written into one of them changes no other one. -/
namespace Go.Proofs.YtjpahjfjpkbcnaaGreat
open Go.Proofs Go.RowKit

/-- Nothing of a block is frozen. -/
def Loose (w : World) (b : Nat) : Prop := ∀ j, w.frozen? ⟨b, j, none⟩ = false
theorem Loose.of {w w' : World} {b : Nat} (h : Loose w b) (he : w'.heap[b]? = w.heap[b]?) : Loose w' b := fun j => by
  have := h j
  simp only [World.frozen?, he] at this ⊢
  exact this

mutual
def SepM (B : Nat → Prop) (w : World) : Tm → Value → Prop
  | .mk op n text kids pats, v => ∃ (kv pv : Value) (BK BP : Nat → Prop), v = .agg #[.int .i64 op, .int .i64 n, .string text, kv, pv] ∧ text.size ≤ maxLen ∧ (∀ x, BK x → B x ∧ ¬ BP x) ∧ (∀ x, BP x → B x) ∧
    SlIn BK kv kids.length (fun b o => Loose w b ∧ SepsM BK w kids b o) ∧ SlIn BP pv pats.length (fun b o => PtsIn BP w pats b o)
def SepsM (B : Nat → Prop) (w : World) : List Tm → Nat → Nat → Prop
  | [], _, _ => True
  | p :: ps, b, o => ∃ B1 : Nat → Prop, (∀ x, B1 x → B x ∧ x ≠ b) ∧ (∃ c0 c1 c2 c3 c4, w.cell? ⟨b, o, none⟩ = some c0 ∧ w.cell? ⟨b, o + 1, none⟩ = some c1 ∧ w.cell? ⟨b, o + 2, none⟩ = some c2 ∧ w.cell? ⟨b, o + 3, none⟩ = some c3 ∧ w.cell? ⟨b, o + 4, none⟩ = some c4 ∧ SepM B1 w p (.agg #[c0, c1, c2, c3, c4])) ∧ SepsM (fun x => B x ∧ ¬ B1 x) w ps b (o + 5)
end

mutual
theorem SepM.keep {B B' : Nat → Prop} {w w' : World} (hb : ∀ b, B b → w'.heap[b]? = w.heap[b]?) (hB : ∀ b, B b → B' b) : ∀ (p : Tm) (v : Value), SepM B w p v → SepM B' w' p v
  | .mk op n text kids pats, v, h => by
    unfold SepM at h ⊢
    obtain ⟨kv, pv, BK, BP, h1, h2, h3, h4, h5, h6⟩ := h
    exact ⟨kv, pv, BK, BP, h1, h2, fun x hx => ⟨hB x (h3 x hx).1, (h3 x hx).2⟩, fun x hx => hB x (h4 x hx), h5.mono (fun _ h => h) fun b o hlt hr => ⟨hr.1.of (hb b (h3 b hlt).1), SepsM.keep (fun b h => hb b (h3 b h).1) (fun _ h => h) kids b o hlt hr.2⟩, h6.mono (fun _ h => h) fun b o hlt hr => PtsIn.keep (fun b h => hb b (h4 b h)) (fun _ h => h) pats b o hlt hr⟩
theorem SepsM.keep {B B' : Nat → Prop} {w w' : World} (hb : ∀ b, B b → w'.heap[b]? = w.heap[b]?) (hB : ∀ b, B b → B' b) : ∀ (ps : List Tm) (b o : Nat), (B b) → SepsM B w ps b o → SepsM B' w' ps b o
  | [], _, _, _, _ => by unfold SepsM; trivial
  | p :: ps, b, o, hlt, h => by
    unfold SepsM at h ⊢
    obtain ⟨B1, hB1, ⟨c0, c1, c2, c3, c4, h0, h1, h2, h3, h4, hp⟩, hs⟩ := h
    exact ⟨B1, fun x hx => ⟨hB x (hB1 x hx).1, (hB1 x hx).2⟩, ⟨c0, c1, c2, c3, c4, (cell_of_heap (hb b hlt)).trans h0, (cell_of_heap (hb b hlt)).trans h1, (cell_of_heap (hb b hlt)).trans h2, (cell_of_heap (hb b hlt)).trans h3, (cell_of_heap (hb b hlt)).trans h4, SepM.keep (fun b h => hb b (hB1 b h).1) (fun _ h => h) p _ hp⟩,
      SepsM.keep (fun b h => hb b h.1) (fun b h => ⟨hB b h.1, h.2⟩) ps b _ ⟨hlt, fun h => (hB1 b h).2 rfl⟩ hs⟩
end
theorem TmIn.weak {B B' : Nat → Prop} {w : World} (hB : ∀ b, B b → B' b) : ∀ (p : Tm) (v : Value), TmIn B w p v → TmIn B' w p v
  | p, v, h => TmIn.keep (fun _ _ => rfl) hB p v h
theorem TmsIn.weak {B B' : Nat → Prop} {w : World} (hB : ∀ b, B b → B' b) : ∀ (ps : List Tm) (b o : Nat), TmsIn B w ps b o → TmsIn B' w ps b o
  | [], _, _, _ => by unfold TmsIn; trivial
  | p :: ps, b, o, h => by
    unfold TmsIn at h ⊢
    obtain ⟨⟨c0, c1, c2, c3, c4, h0, h1, h2, h3, h4, hp⟩, hs⟩ := h
    exact ⟨⟨c0, c1, c2, c3, c4, h0, h1, h2, h3, h4, TmIn.keep (fun _ _ => rfl) hB p _ hp⟩, TmsIn.weak hB ps b _ hs⟩

mutual
theorem SepM.to {B : Nat → Prop} {w : World} : ∀ (p : Tm) (v : Value), SepM B w p v → TmIn B w p v
  | .mk op n text kids pats, v, h => by
    unfold SepM at h; unfold TmIn
    obtain ⟨kv, pv, BK, BP, h1, h2, h3, h4, h5, h6⟩ := h
    exact ⟨kv, pv, h1, h2, h5.mono (fun x h => (h3 x h).1) fun b o hlt hr => TmsIn.keep (fun _ _ => rfl) (fun x h => (h3 x h).1) kids b o hlt (SepsM.to kids b o hr.2), h6.mono h4 fun b o hlt hr => PtsIn.keep (fun _ _ => rfl) h4 pats b o hlt hr⟩
theorem SepsM.to {B : Nat → Prop} {w : World} : ∀ (ps : List Tm) (b o : Nat), SepsM B w ps b o → TmsIn B w ps b o
  | [], _, _, _ => by unfold TmsIn; trivial
  | p :: ps, b, o, h => by
    unfold SepsM at h; unfold TmsIn
    obtain ⟨B1, hB1, ⟨c0, c1, c2, c3, c4, h0, h1, h2, h3, h4, hp⟩, hs⟩ := h
    exact ⟨⟨c0, c1, c2, c3, c4, h0, h1, h2, h3, h4, TmIn.keep (fun _ _ => rfl) (fun x h => (hB1 x h).1) _ _ (SepM.to p _ hp)⟩, TmsIn.weak (fun x h => h.1) ps b _ (SepsM.to ps b _ hs)⟩
end

theorem SepM.shape {B : Nat → Prop} {w : World} {T : Tm} {v : Value} (h : SepM B w T v) : ∃ (o n : Int) (t : ByteArray) (ka : Option Addr) (kn kc : Nat) (pa : Option Addr) (pn pc : Nat), v = .agg #[.int .i64 o, .int .i64 n, .string t, .slice ka kn kc, .slice pa pn pc] := TmIn.shape (SepM.to _ _ h)

def FlatS (B : Nat → Prop) (w : World) : List Tm → List Value → Prop
  | [], cs => cs = []
  | p :: ps, cs => ∃ (B1 : Nat → Prop) (c0 c1 c2 c3 c4 : Value) (r : List Value), cs = c0 :: c1 :: c2 :: c3 :: c4 :: r ∧ (∀ x, B1 x → B x) ∧ SepM B1 w p (.agg #[c0, c1, c2, c3, c4]) ∧ FlatS (fun x => B x ∧ ¬ B1 x) w ps r
theorem FlatS.keep {w w' : World} : ∀ (ps : List Tm) (cs : List Value) (B B' : Nat → Prop), (∀ b, B b → w'.heap[b]? = w.heap[b]?) → (∀ b, B b → B' b) → FlatS B w ps cs → FlatS B' w' ps cs
  | [], _, _, _, _, _, h => h
  | _ :: ps, _, _, _, hb, hB, ⟨B1, c0, c1, c2, c3, c4, r, h1, h2, h3, h4⟩ => ⟨B1, c0, c1, c2, c3, c4, r, h1, fun x h => hB x (h2 x h), SepM.keep (fun b h => hb b (h2 b h)) (fun _ h => h) _ _ h3, FlatS.keep ps r _ _ (fun b h => hb b h.1) (fun b h => ⟨hB b h.1, h.2⟩) h4⟩
theorem FlatS.snoc {w : World} {p : Tm} {c0 c1 c2 c3 c4 : Value} {BN : Nat → Prop} (hp : SepM BN w p (.agg #[c0, c1, c2, c3, c4])) : ∀ (ps : List Tm) (cs : List Value) (B B' : Nat → Prop), (∀ x, B x → B' x) → (∀ x, BN x → B' x ∧ ¬ B x) → FlatS B w ps cs → FlatS B' w (ps ++ [p]) (cs ++ [c0, c1, c2, c3, c4])
  | [], _, _, _, _, hN, h => by cases h; exact ⟨BN, c0, c1, c2, c3, c4, [], rfl, fun x h => (hN x h).1, hp, rfl⟩
  | _ :: ps, _, B, B', hB, hN, ⟨B1, d0, d1, d2, d3, d4, r, h1, h2, h3, h4⟩ => ⟨B1, d0, d1, d2, d3, d4, r ++ [c0, c1, c2, c3, c4], by rw [h1]; rfl, fun x h => hB x (h2 x h), h3, FlatS.snoc hp ps r _ _ (fun x h => ⟨hB x h.1, h.2⟩) (fun x h => ⟨⟨(hN x h).1, fun h' => (hN x h).2 (h2 x h')⟩, fun h' => (hN x h).2 h'.1⟩) h4⟩
theorem FlatS.seps {w : World} {b : Nat} : ∀ (ps : List Tm) (cs : List Value) (o : Nat) (B B' : Nat → Prop), (∀ x, B x → B' x ∧ x ≠ b) → FlatS B w ps cs → (∀ i u, cs[i]? = some u → w.cell? ⟨b, o + i, none⟩ = some u) → SepsM B' w ps b o
  | [], _, _, _, _, _, _, _ => by unfold SepsM; trivial
  | p :: ps, _, o, B, B', hB, ⟨B1, c0, c1, c2, c3, c4, r, h1, h2, h3, h4⟩, hc => by
    subst h1
    unfold SepsM
    refine ⟨B1, fun x h => hB x (h2 x h), ⟨c0, c1, c2, c3, c4, hc 0 c0 rfl, hc 1 c1 rfl, hc 2 c2 rfl, hc 3 c3 rfl, hc 4 c4 rfl, h3⟩, FlatS.seps ps r (o + 5) _ _ (fun x h => ⟨⟨(hB x h.1).1, h.2⟩, (hB x h.1).2⟩) h4 fun i u hi => ?_⟩
    rw [Nat.add_assoc, Nat.add_comm 5 i]; exact hc (i + 5) u hi

/-- As owned_sl; the row's block is loose, too. -/
theorem owned_sl2 {w : World} {base : Nat} {e : TypeId} {size : Nat} {v : Value} {n : Nat} {xs : List Value} {B : Nat → Prop} {R : Nat → Nat → Prop} (h : w.ownsRow base e size v n xs) (hB : ∀ b, v.ownBlock = some b → B b)
    (hR : ∀ b, v.ownBlock = some b → Loose w b → (∀ i u, xs[i]? = some u → w.cell? ⟨b, 0 + i, none⟩ = some u) → R b 0) : SlIn B v n R := by
  refine owned_sl h hB fun b hb hc => hR b hb ?_ hc
  rcases h.2 with ⟨rfl, -⟩ | ⟨g, cap, cur, rfl, -, hh, -⟩
  · cases hb
  · cases hb
    exact free_box hh

set_option maxHeartbeats 2000000 in
set_option maxRecDepth 100000 in
theorem eachS_any (g : FuncId) (caps : Array Value) (eg : ∀ args w, (callFunc g args).run Tryz.prog w = .ok (.enter g args) w) (f : Tm → Tm) (ps : List Tm) (v : Value) (w : World) (hv : SlV w.heap.size v ps.length fun b o => TmsAt w.heap.size w ps b o) (hl : ps.length ≤ 1000000)
    (hcall : ∀ (k : Nat) (hk : k < ps.length) (v1 : Value) (W : World), Below w.heap.size w W → TmAt W.heap.size W ps[k] v1 → Calls Tryz.prog g (#[v1] ++ caps) W fun e W' => (∃ v2, e = .returned v2 ∧ SepM (Fresh W W') W' (f ps[k]) v2) ∧ Below W.heap.size W W') :
    Calls Tryz.prog 132 #[v, .func (.func g) #[] caps] w fun e w' => (∃ v', e = .returned v' ∧ SlIn (Fresh w w') v' ps.length fun b o => Loose w' b ∧ SepsM (Fresh w w') w' (ps.map f) b o) ∧ Below w.heap.size w w' := by
  obtain ⟨i0, hi, hz0, hz1, hz2⟩ := info_parts Tz.info32
  obtain ⟨a, cap, rfl, hcap, hlc, hka⟩ := hv.split
  clear hv
  unfold maxLen at hcap
  have HKA := Lib.hid hka; have HCL := Lib.hid hcall; have EG := Lib.hid eg; clear hka hcall eg
  go_enter Tryz.func132, Tryz.ntmps132
  go_wp2
  go_loopw [5, 10] (fun vo i wr => ∃ (k : Nat) (xs : List Value), k ≤ ps.length ∧ i = .int .i64 k ∧ wr.ownsRow w.heap.size 32 5 vo k xs ∧ FlatS (Own w wr vo) wr ((ps.take k).map f) xs ∧ Below w.heap.size w wr) (fun _ i _ => ps.length - (intOf i).toNat)
  case atStart => exact ⟨0, [], Nat.zero_le _, rfl, World.ownsRow_nil _ _ _ _, rfl, Below.refl _ _⟩
  case round =>
    obtain ⟨k, xs, hk, rfl, hrow, hflat, hB⟩ := hrel
    by_cases hlt : k < ps.length
    · obtain ⟨b, o, rfl, hbn, hss⟩ := HKA.out (by omega)
      obtain ⟨c0, c1, c2, c3, c4, g0, g1, g2, g3, g4, ht⟩ := TmsAt.get ps b o hss k hlt
      have q0 := (hB.cell (p := ⟨b, _, none⟩) hbn).trans g0
      have q1 := (hB.cell (p := ⟨b, _, none⟩) hbn).trans g1
      have q2 := (hB.cell (p := ⟨b, _, none⟩) hbn).trans g2
      have q3 := (hB.cell (p := ⟨b, _, none⟩) hbn).trans g3
      have q4 := (hB.cell (p := ⟨b, _, none⟩) hbn).trans g4
      clear g0 g1 g2 g3 g4
      obtain ⟨oo, nn, tt, ka, kn, kc, pa, pn, pc, rfl, rfl, rfl, rfl, rfl⟩ := ht.shape
      have hBa : Below w.heap.size w (wr.alloc (.cells #[.int .i64 oo, .int .i64 nn, .string tt, .slice ka kn kc, .slice pa pn pc] 32)) := hB.trans ((Below.refl _ wr).alloc hB.size _)
      have hcl := HCL.out k hlt _ (wr.alloc (.cells #[.int .i64 oo, .int .i64 nn, .string tt, .slice ka kn kc, .slice pa pn pc] 32)) hBa (TmAt.keep hBa (by have := hB.size; simp; omega) _ _ ht)
      have HC := Lib.hid hcl; have HB := Lib.hid hB; have HROW := Lib.hid hrow; have HFLAT := Lib.hid hflat
      have eg := EG.out
      clear hcl hB hrow hflat hBa
      go_wp2_with fail
      refine HC.out.mono ?_
      rintro e w1 ⟨⟨v2, rfl, hnew⟩, hb1⟩
      have hsz := HB.out.size
      have hb1' : Below wr.heap.size wr w1 := ((Below.refl _ wr).alloc (Nat.le_refl _) _).trans (hb1.mono (by simp))
      have hsz1 := hb1'.size
      have hb1s := hb1.size
      simp at hb1s
      obtain ⟨o2, n2, t2, ka2, kn2, kc2, pa2, pn2, pc2, rfl⟩ := SepM.shape hnew
      have hown1 : ∀ kk, u5.ownBlock = some kk → w.heap.size ≤ kk ∧ kk < wr.heap.size := fun kk h => HROW.out.lt kk h
      have hrow1 : w1.ownsRow w.heap.size 32 5 u5 k xs := HROW.out.kept (row := none) ⟨hb1'.os, hb1'.tape, hb1'.output, hb1'.size, fun i hi _ => hb1'.block i hi⟩ (by cases u5.ownBlock <;> simp)
      have hrow2 := hrow1.alloc (.cells #[.int .i64 o2, .int .i64 n2, .string t2, .slice ka2 kn2 kc2, .slice pa2 pn2 pc2] 32)
      have HNEW := Lib.hid hnew; have HB1 := Lib.hid hb1; have HB1' := Lib.hid hb1'; have HR2 := Lib.hid hrow2; have HO1 := Lib.hid hown1
      have hnews := cells_new w1 [.int .i64 o2, .int .i64 n2, .string t2, .slice ka2 kn2 kc2, .slice pa2 pn2 pc2] 32
      have HNW := Lib.hid hnews
      have hone : ∀ u ∈ [Value.int .i64 o2, .int .i64 n2, .string t2, .slice ka2 kn2 kc2, .slice pa2 pn2 pc2], u.oneCell' = true := by intro u hu; simp at hu; rcases hu with rfl | rfl | rfl | rfl | rfl <;> rfl
      have HONE := Lib.hid hone
      clear hnew hb1 hb1' hrow1 hrow2 hown1 hnews hone
      go_wp2_with (at_builtin; refine wpList_append_own_at _ rfl _ _ 29 rfl w.heap.size 32 i0 _ 5 80 Tryz.underlying29 hi hz0 hz1 hz2 rfl (by decide) u5 k xs rfl HR2.out ⟨w1.heap.size, 0, none⟩ 1 1 [.int .i64 o2, .int .i64 n2, .string t2, .slice ka2 kn2 kc2, .slice pa2 pn2 pc2] rfl rfl HNW.out HONE.out (by unfold maxLen; omega) (by omega) (by simp; omega) ?_; intro v' w' hown' hgr hnil hat; have HOWN := Lib.hid hown'; have HGR := Lib.hid hgr; have HAT := Lib.hid hat; clear hown' hgr hnil hat)
      go_roundw
      case rel =>
        obtain ⟨s1, s2, s3, s4⟩ := own_step HB.out HB1'.out HO1.out HGR.out HAT.out
        refine ⟨k + 1, _, by omega, by go_num, HOWN.out, ?_, s4⟩
        rw [List.take_succ_eq_append_getElem hlt, List.map_append, List.map_cons, List.map_nil]
        exact FlatS.snoc (BN := fun b => wr.heap.size < b ∧ b < w1.heap.size) (SepM.keep (fun b h => (s3 b (by have := h.1; simp at this; omega) h.2).1) (fun b h => ⟨by have := h.1; simp at this; omega, h.2⟩) _ _ HNEW.out) _ _ _ _ s2 (fun b h => ⟨(s3 b (by omega) h.2).2, fun h' => by have := h'.2.1; omega⟩) (FlatS.keep _ _ _ _ s1 (fun _ h => h) HFLAT.out)
      case measure => simp [intOf]; omega
    · go_wp2
      go_ret
      obtain rfl : k = ps.length := by omega
      refine ⟨⟨_, rfl, owned_sl2 hrow (fun b h => hrow.lt b h) fun b hb hl hc => ⟨hl, ?_⟩⟩, hB⟩
      rw [List.take_length] at hflat
      exact FlatS.seps _ _ _ _ _ (fun x h => ⟨⟨h.1, h.2.1⟩, fun e => h.2.2 (e ▸ hb)⟩) hflat hc


set_option maxHeartbeats 4000000 in
theorem copyS_any (p : Tm) : ∀ (v : Value) (W : World), TmAt W.heap.size W p v → lensM p →
    Calls Tryz.prog 102 #[v] W fun e W' => (∃ v2, e = .returned v2 ∧ SepM (Fresh W W') W' p v2) ∧ Below W.heap.size W W' := by
  induction hT : SizeOf.sizeOf p using Nat.strongRecOn generalizing p with
  | _ m ih =>
  subst hT
  intro v W hv hlen
  have HIH := Lib.hid ih; clear ih
  cases p with
  | mk op n text kids pats =>
  unfold TmAt at hv
  obtain ⟨kv, pv, rfl, htx, hk, hp⟩ := hv
  obtain ⟨a, cap, rfl, -⟩ := hk.split
  obtain ⟨a', cap', rfl, -⟩ := hp.split
  have hb2 : Below W.heap.size W ((W.alloc (.cells #[.int .i64 op, .int .i64 n, .string text, .slice a kids.length cap, .slice a' pats.length cap'] 32)).alloc (.cells #[.int .i64 0, .int .i64 0, .string ⟨#[]⟩, .slice none 0 0, .slice none 0 0] 32)) := ((Below.refl _ W).alloc (Nat.le_refl _) _).alloc (by simp) _
  unfold lensM at hlen
  have he := eachS_any 102 #[] (enters_of Tryz.func102 (by kernel_rfl) rfl) id kids (.slice a kids.length cap) _ (hk.mono (n₁ := ((W.alloc (.cells #[.int .i64 op, .int .i64 n, .string text, .slice a kids.length cap, .slice a' pats.length cap'] 32)).alloc (.cells #[.int .i64 0, .int .i64 0, .string ⟨#[]⟩, .slice none 0 0, .slice none 0 0] 32)).heap.size) (by simp; omega) fun b o hlt hr => TmsAt.keep hb2 (by simp; omega) _ b o hlt hr) hlen.1
    (fun k hk v1 W1 hb1 hv1 => HIH.out _ (kid_lt k hk) kids[k] rfl v1 W1 hv1 (lensM_get hlen.2.2.2 k hk))
  have HE := Lib.hid he; have HP := Lib.hid hp; clear he hk hp
  go_enter Tryz.func102, Tryz.ntmps102
  go_wp2_with fail
  refine HE.out.mono ?_
  rintro e w1 ⟨⟨v2, rfl, hsl⟩, hb1⟩
  obtain ⟨a2, cap2, rfl⟩ := hsl.split
  have x1 := bget' hb1 ((Below.heap_alloc _ (.cells #[.int .i64 0, .int .i64 0, .string ⟨#[]⟩, .slice none 0 0, .slice none 0 0] 32) _ (by simp)).trans (heap_alloc_new W (.cells #[.int .i64 op, .int .i64 n, .string text, .slice a kids.length cap, .slice a' pats.length cap'] 32)))
  have x2 := bget' hb1 (heap_alloc_new (W.alloc (.cells #[.int .i64 op, .int .i64 n, .string text, .slice a kids.length cap, .slice a' pats.length cap'] 32)) (.cells #[.int .i64 0, .int .i64 0, .string ⟨#[]⟩, .slice none 0 0, .slice none 0 0] 32))
  rw [World.size_alloc] at x2
  obtain ⟨y0, y1, y2, y3, y4⟩ := cells5 x1
  have f1 := free_box x1
  have hs1 := hb1.size
  simp at hs1
  -- behind the first store
  have k1 : Kept (fun k => k = W.heap.size) w1 (w1.setCell ⟨W.heap.size, 3, none⟩ (.slice a2 kids.length cap2)) := .setCell (S := fun k => k = W.heap.size) _ rfl _
  have hx1 : (w1.setCell ⟨W.heap.size, 3, none⟩ (.slice a2 kids.length cap2)).heap[W.heap.size]? = some (.cells #[.int .i64 op, .int .i64 n, .string text, .slice a2 kids.length cap2, .slice a' pats.length cap'] 32 (0, 0)) := box_setCell x1 3 _
  have hx2 := k1.get x2 (by omega)
  have hbW : Below W.heap.size W (w1.setCell ⟨W.heap.size, 3, none⟩ (.slice a2 kids.length cap2)) := (hb2.trans (hb1.mono (by simp; omega))).trans (k1.below (by omega) (by rintro k rfl; omega))
  have hep := eachP_any 134 #[] (enters_of Tryz.func134 (by kernel_rfl) rfl) id pats (.slice a' pats.length cap') (w1.setCell ⟨W.heap.size, 3, none⟩ (.slice a2 kids.length cap2)) (HP.out.mono (n₁ := (w1.setCell ⟨W.heap.size, 3, none⟩ (.slice a2 kids.length cap2)).heap.size) hbW.size fun b o hlt hr => PtsAt.keep hbW hbW.size _ b o hlt hr) hlen.2.1
    (fun k hk v1 W1 hb1 hv1 => copyOfPat_any pats[k] v1 W1 hv1 (lensP_get hlen.2.2.1 k hk))
  have HEP := Lib.hid hep
  have HSL := Lib.hid hsl; have HX1 := Lib.hid hx1; have HX2 := Lib.hid hx2; have HBW := Lib.hid hbW; have HK1 := Lib.hid k1; have HB1 := Lib.hid hb1
  clear hep x1 x2 hsl HE hx1 hx2 hbW k1 hb1
  go_wp2_with fail
  refine HEP.out.mono ?_
  rintro e w2 ⟨⟨v3, rfl, hsp⟩, hb2'⟩
  obtain ⟨a3, cap3, rfl⟩ := hsp.split
  have hx1 := bget' hb2' HX1.out
  have hx2 := bget' hb2' HX2.out
  have hsW := HBW.out.size
  have hsw2 := hb2'.size
  have hswk := HK1.out.size
  clear y0 y1 y2 y3 y4 f1
  obtain ⟨y0, y1, y2, y3, y4⟩ := cells5 hx1
  obtain ⟨z0, z1, z2, z3, z4⟩ := cells5 hx2
  have f1 := free_box hx1
  have f2 := free_box hx2
  have HSP := Lib.hid hsp; have HB2 := Lib.hid hb2'
  clear hsp hb2' hx1 hx2 HEP
  go_wp2
  have hkp : Kept (fun k => k = W.heap.size ∨ k = W.heap.size + 1) w2 ((((((w2.setCell ⟨W.heap.size, 4, none⟩ (.slice a3 pats.length cap3)).setCell ⟨W.heap.size + 1, 0, none⟩ (.int .i64 op)).setCell ⟨W.heap.size + 1, 1, none⟩ (.int .i64 n)).setCell ⟨W.heap.size + 1, 2, none⟩ (.string text)).setCell ⟨W.heap.size + 1, 3, none⟩ (.slice a2 kids.length cap2)).setCell ⟨W.heap.size + 1, 4, none⟩ (.slice a3 pats.length cap3)) :=
    (((((Kept.setCell _ (.inl rfl) _).trans (.setCell _ (.inr rfl) _)).trans (.setCell _ (.inr rfl) _)).trans (.setCell _ (.inr rfl) _)).trans (.setCell _ (.inr rfl) _)).trans (.setCell _ (.inr rfl) _)
  have hs2 := hkp.size
  refine bodyPost_ret (v := .agg #[.int .i64 op, .int .i64 n, .string text, .slice a2 kids.length cap2, .slice a3 pats.length cap3]) (by simp [results, Tryz.results102, go_sem, z0, z1, z2, z3, z4]) rfl ⟨⟨_, rfl, ?_⟩, (HBW.out.trans (HB2.out.mono hsW)).trans (hkp.below (by omega) (by rintro k (rfl | rfl) <;> omega))⟩
  unfold SepM
  have hk1 : ∀ b, Fresh ((W.alloc (.cells #[.int .i64 op, .int .i64 n, .string text, .slice a kids.length cap, .slice a' pats.length cap'] 32)).alloc (.cells #[.int .i64 0, .int .i64 0, .string ⟨#[]⟩, .slice none 0 0, .slice none 0 0] 32)) w1 b → W.heap.size + 2 ≤ b ∧ b < w1.heap.size := fun b h => ⟨by have := h.1; simpa using this, h.2⟩
  have hk2 : ∀ b, Fresh (w1.setCell ⟨W.heap.size, 3, none⟩ (.slice a2 kids.length cap2)) w2 b → w1.heap.size ≤ b ∧ b < w2.heap.size := fun b h => ⟨by have := h.1; simp at this; omega, h.2⟩
  have e1 := HSL.out
  have e2 := HSP.out
  rw [List.map_id] at e1 e2
  have hkb : ∀ b, W.heap.size + 2 ≤ b ∧ b < w1.heap.size → (((((((w2.setCell ⟨W.heap.size, 4, none⟩ (.slice a3 pats.length cap3)).setCell ⟨W.heap.size + 1, 0, none⟩ (.int .i64 op)).setCell ⟨W.heap.size + 1, 1, none⟩ (.int .i64 n)).setCell ⟨W.heap.size + 1, 2, none⟩ (.string text)).setCell ⟨W.heap.size + 1, 3, none⟩ (.slice a2 kids.length cap2)).setCell ⟨W.heap.size + 1, 4, none⟩ (.slice a3 pats.length cap3)).heap[b]?) = w1.heap[b]? := fun b h =>
    (hkp.block b (by omega) (by omega)).trans ((HB2.out.block b (by omega)).trans (HK1.out.block b h.2 (by omega)))
  refine ⟨_, _, (fun b => W.heap.size + 2 ≤ b ∧ b < w1.heap.size), (fun b => w1.heap.size ≤ b ∧ b < w2.heap.size), rfl, htx, fun x h => ⟨⟨by omega, by omega⟩, fun h' => by omega⟩, fun x h => ⟨by omega, by omega⟩, ?_, ?_⟩
  · exact e1.mono hk1 fun b o h hr => ⟨hr.1.of (hkb b (hk1 b h)), SepsM.keep (fun b h => hkb b (hk1 b h)) hk1 _ _ _ h hr.2⟩
  · exact e2.mono hk2 fun b o h hr => PtsIn.keep (fun b h => hkp.block b (hk2 b h).2 (by have := (hk2 b h).1; omega)) hk2 _ _ _ h hr
end Go.Proofs.YtjpahjfjpkbcnaaGreat

/- What a place in a copy is, and what the whole is behind a write there. -/
namespace Go.Proofs.YtjpahjfjpkbcnaaGreat
open Go.Proofs Go.RowKit

/-- A term with another part where a path leads. -/
def putM : Tm → List Int → Tm → Tm
  | _, [], q => q
  | t, k :: ks, q => if h : 0 ≤ k ∧ k.toNat < t.kids.length then .mk t.op t.n t.text (t.kids.set k.toNat (putM t.kids[k.toNat] ks q)) t.pats else t

theorem SepsM.at' {BB : Nat → Prop} {w w' : World} : ∀ (ps : List Tm) (b o : Nat) (B : Nat → Prop), (∀ x, B x → x ≠ b → w'.heap[x]? = w.heap[x]?) → (∀ j, o ≤ j → w'.cell? ⟨b, j, none⟩ = w.cell? ⟨b, j, none⟩) → (∀ x, B x → BB x) → SepsM B w ps b o → TmsIn BB w' ps b o
  | [], _, _, _, _, _, _, _ => by unfold TmsIn; trivial
  | p :: ps, b, o, B, hh, hc, hn, h => by
    unfold SepsM at h; unfold TmsIn
    obtain ⟨B1, hB1, ⟨c0, c1, c2, c3, c4, h0, h1, h2, h3, h4, hp⟩, hs⟩ := h
    refine ⟨⟨c0, c1, c2, c3, c4, (hc o (by omega)).trans h0, (hc (o + 1) (by omega)).trans h1, (hc (o + 2) (by omega)).trans h2, (hc (o + 3) (by omega)).trans h3, (hc (o + 4) (by omega)).trans h4, ?_⟩, SepsM.at' ps b (o + 5) _ (fun x h => hh x h.1) (fun j hj => hc j (by omega)) (fun x h => hn x h.1) hs⟩
    exact TmIn.weak (fun x h => hn x (hB1 x h).1) _ _ (SepM.to _ _ (SepM.keep (fun x h => hh x (hB1 x h).1 (hB1 x h).2) (fun _ h => h) _ _ hp))

theorem SepsM.put {w : World} : ∀ (ps : List Tm) (b o : Nat) (B : Nat → Prop), SepsM B w ps b o → ∀ (k : Nat) (hk : k < ps.length),
    ∃ (Bk : Nat → Prop) (c0 c1 c2 c3 c4 : Value), (∀ x, Bk x → B x ∧ x ≠ b) ∧ w.cell? ⟨b, o + k * 5, none⟩ = some c0 ∧ w.cell? ⟨b, o + k * 5 + 1, none⟩ = some c1 ∧ w.cell? ⟨b, o + k * 5 + 2, none⟩ = some c2 ∧ w.cell? ⟨b, o + k * 5 + 3, none⟩ = some c3 ∧ w.cell? ⟨b, o + k * 5 + 4, none⟩ = some c4 ∧ SepM Bk w ps[k] (.agg #[c0, c1, c2, c3, c4]) ∧
      ∀ (BB : Nat → Prop) (w' : World) (T : Tm) (e0 e1 e2 e3 e4 : Value), (∀ x, B x → x ≠ b → ¬ Bk x → w'.heap[x]? = w.heap[x]?) → (∀ j, (j < o + k * 5 ∨ o + k * 5 + 5 ≤ j) → w'.cell? ⟨b, j, none⟩ = w.cell? ⟨b, j, none⟩) → (∀ x, B x → BB x) →
        w'.cell? ⟨b, o + k * 5, none⟩ = some e0 → w'.cell? ⟨b, o + k * 5 + 1, none⟩ = some e1 → w'.cell? ⟨b, o + k * 5 + 2, none⟩ = some e2 → w'.cell? ⟨b, o + k * 5 + 3, none⟩ = some e3 → w'.cell? ⟨b, o + k * 5 + 4, none⟩ = some e4 → TmIn BB w' T (.agg #[e0, e1, e2, e3, e4]) → TmsIn BB w' (ps.set k T) b o
  | [], _, _, _, _, k, hk => absurd hk (by simp)
  | p :: ps, b, o, B, h, 0, _ => by
    unfold SepsM at h
    obtain ⟨B1, hB1, ⟨c0, c1, c2, c3, c4, h0, h1, h2, h3, h4, hp⟩, hs⟩ := h
    simp only [Nat.zero_mul, Nat.add_zero]
    refine ⟨B1, c0, c1, c2, c3, c4, hB1, h0, h1, h2, h3, h4, hp, fun BB w' T e0 e1 e2 e3 e4 hh hc hn g0 g1 g2 g3 g4 ht => ?_⟩
    show TmsIn BB w' (T :: ps) b o
    unfold TmsIn
    exact ⟨⟨e0, e1, e2, e3, e4, g0, g1, g2, g3, g4, ht⟩, SepsM.at' ps b (o + 5) _ (fun x h h' => hh x h.1 h' h.2) (fun j hj => hc j (by omega)) (fun x h => hn x h.1) hs⟩
  | p :: ps, b, o, B, h, k + 1, hk => by
    unfold SepsM at h
    obtain ⟨B1, hB1, ⟨c0, c1, c2, c3, c4, h0, h1, h2, h3, h4, hp⟩, hs⟩ := h
    obtain ⟨Bk, d0, d1, d2, d3, d4, i1, j0, j1, j2, j3, j4, i2, i3⟩ := SepsM.put ps b (o + 5) _ hs k (by simpa using hk)
    rw [show o + (k + 1) * 5 = o + 5 + k * 5 by omega]
    refine ⟨Bk, d0, d1, d2, d3, d4, fun x h => ⟨(i1 x h).1.1, (i1 x h).2⟩, j0, j1, j2, j3, j4, by simpa using i2, fun BB w' T e0 e1 e2 e3 e4 hh hc hn g0 g1 g2 g3 g4 ht => ?_⟩
    show TmsIn BB w' (p :: ps.set k T) b o
    unfold TmsIn
    refine ⟨⟨c0, c1, c2, c3, c4, (hc o (by omega)).trans h0, (hc (o + 1) (by omega)).trans h1, (hc (o + 2) (by omega)).trans h2, (hc (o + 3) (by omega)).trans h3, (hc (o + 4) (by omega)).trans h4, ?_⟩, i3 BB w' T e0 e1 e2 e3 e4 (fun x h h' h'' => hh x h.1 h' h'') hc (fun x h => hn x h.1) g0 g1 g2 g3 g4 ht⟩
    exact TmIn.weak (fun x h => hn x (hB1 x h).1) _ _ (SepM.to _ _ (SepM.keep (fun x h => hh x (hB1 x h).1 (hB1 x h).2 fun h' => (i1 x h').1.2 h) (fun _ h => h) _ _ hp))

/-- Whatever is written at a place, what the root holds behind it. -/
def Clo (w : World) (U B : Nat → Prop) (b o : Nat) (F : Tm → Tm) (r : Nat) : Prop :=
  ∀ (BB : Nat → Prop) (w' : World) (T : Tm) (e0 e1 e2 e3 e4 : Value), (∀ x, x < w.heap.size → x ≠ b → ¬ B x → w'.heap[x]? = w.heap[x]?) → (∀ j, (j < o ∨ o + 5 ≤ j) → w'.cell? ⟨b, j, none⟩ = w.cell? ⟨b, j, none⟩) → (∀ x, U x → BB x) →
    w'.cell? ⟨b, o, none⟩ = some e0 → w'.cell? ⟨b, o + 1, none⟩ = some e1 → w'.cell? ⟨b, o + 2, none⟩ = some e2 → w'.cell? ⟨b, o + 3, none⟩ = some e3 → w'.cell? ⟨b, o + 4, none⟩ = some e4 → TmIn BB w' T (.agg #[e0, e1, e2, e3, e4]) →
    ∃ d0 d1 d2 d3 d4, w'.cell? ⟨r, 0, none⟩ = some d0 ∧ w'.cell? ⟨r, 1, none⟩ = some d1 ∧ w'.cell? ⟨r, 2, none⟩ = some d2 ∧ w'.cell? ⟨r, 3, none⟩ = some d3 ∧ w'.cell? ⟨r, 4, none⟩ = some d4 ∧ TmIn BB w' (F T) (.agg #[d0, d1, d2, d3, d4])

/-- A place: its cells hold a part. -/
def PlAt (w : World) (B : Nat → Prop) (b o : Nat) (q : Tm) : Prop :=
  (∀ x, B x → x < w.heap.size ∧ x ≠ b) ∧ b < w.heap.size ∧ Loose w b ∧ ∃ c0 c1 c2 c3 c4, w.cell? ⟨b, o, none⟩ = some c0 ∧ w.cell? ⟨b, o + 1, none⟩ = some c1 ∧ w.cell? ⟨b, o + 2, none⟩ = some c2 ∧ w.cell? ⟨b, o + 3, none⟩ = some c3 ∧ w.cell? ⟨b, o + 4, none⟩ = some c4 ∧ SepM B w q (.agg #[c0, c1, c2, c3, c4])

theorem Clo.root (w : World) (U B : Nat → Prop) (r : Nat) : Clo w U B r 0 id r := fun _ _ _ e0 e1 e2 e3 e4 _ _ _ g0 g1 g2 g3 g4 ht => ⟨e0, e1, e2, e3, e4, g0, g1, g2, g3, g4, ht⟩

theorem Clo.step {w : World} {U B : Nat → Prop} {b o r : Nat} {F : Tm → Tm} {q : Tm} (hC : Clo w U B b o F r) (hU : ∀ x, B x → U x) (hP : PlAt w B b o q) (k : Nat) (hk : k < q.kids.length) :
    ∃ g og cap Bk, w.cell? ⟨b, o + 3, none⟩ = some (.slice (some ⟨g, og, none⟩) q.kids.length cap) ∧ PlAt w Bk g (og + k * 5) q.kids[k] ∧ Clo w U Bk g (og + k * 5) (fun T => F (.mk q.op q.n q.text (q.kids.set k T) q.pats)) r ∧ (∀ x, Bk x → B x) ∧ B g := by
  cases q with
  | mk op nn text kids pats =>
  obtain ⟨p1, p2, p3, c0, c1, c2, c3, c4, h0, h1, h2, h3, h4, hs⟩ := hP
  unfold SepM at hs
  obtain ⟨kv, pv, BK, BP, s1, s2, s3, s4, s5, s6⟩ := hs
  simp only [Value.agg.injEq, Array.mk.injEq, List.cons.injEq, and_true] at s1
  obtain ⟨rfl, rfl, rfl, rfl, rfl⟩ := s1
  change k < kids.length at hk
  rcases s5 with ⟨s5, -⟩ | ⟨g, og, cap, rfl, t2, t3, t4, t5, t6⟩
  · omega
  obtain ⟨Bk, d0, d1, d2, d3, d4, i1, j0, j1, j2, j3, j4, i2, i3⟩ := SepsM.put kids g og BK t6 k hk
  have hBk : ∀ x, Bk x → B x := fun x h => (s3 x (i1 x h).1).1
  have hg : B g := (s3 g t4).1
  refine ⟨g, og, cap, Bk, h3, ⟨fun x h => ⟨(p1 x (hBk x h)).1, (i1 x h).2⟩, (p1 g hg).1, t5, d0, d1, d2, d3, d4, j0, j1, j2, j3, j4, i2⟩, ?_, hBk, hg⟩
  intro BB w' T e0 e1 e2 e3 e4 hh hc hn g0 g1 g2 g3 g4 ht
  have hb : w'.heap[b]? = w.heap[b]? := hh b p2 (fun e => (p1 g hg).2 e.symm) fun h => (p1 b (hBk b h)).2 rfl
  have hbc : ∀ j, w'.cell? ⟨b, j, none⟩ = w.cell? ⟨b, j, none⟩ := fun j => cell_of_heap hb
  refine hC BB w' (.mk op nn text (kids.set k T) pats) _ _ _ _ _ (fun x h1 h2 h3 => hh x h1 (fun e => h3 (e ▸ hg)) fun h => h3 (hBk x h)) (fun j _ => hbc j) hn ((hbc o).trans h0) ((hbc (o + 1)).trans h1) ((hbc (o + 2)).trans h2) ((hbc (o + 3)).trans h3) ((hbc (o + 4)).trans h4) ?_
  unfold TmIn
  refine ⟨_, _, rfl, s2, .inr ⟨g, og, cap, by rw [List.length_set], by rw [List.length_set]; exact t2, t3, hn g (hU g hg), ?_⟩, ?_⟩
  · exact i3 BB w' T e0 e1 e2 e3 e4 (fun x h1 h2 h3 => hh x (p1 x (s3 x h1).1).1 h2 h3) hc (fun x h => hn x (hU x (s3 x h).1)) g0 g1 g2 g3 g4 ht
  · have hbp : ∀ x, BP x → w'.heap[x]? = w.heap[x]? := fun x h => hh x (p1 x (s4 x h)).1 (fun e => (s3 g t4).2 (e ▸ h)) fun h' => (s3 x (i1 x h').1).2 h
    have hbn : ∀ x, BP x → BB x := fun x h => hn x (hU x (s4 x h))
    exact s6.mono hbn fun b' o' hlt hr => PtsIn.keep hbp hbn pats b' o' hlt hr
end Go.Proofs.YtjpahjfjpkbcnaaGreat

/- Put: a part is written into a copy. -/
namespace Go.Proofs.YtjpahjfjpkbcnaaGreat
open Go.Proofs Go.RowKit

theorem lenssM_mem : ∀ {ts : List Tm}, lenssM ts → ∀ t ∈ ts, lensM t
  | _ :: _, h, t, ht => by
    unfold lenssM at h
    rcases List.mem_cons.1 ht with rfl | ht
    · exact h.1
    · exact lenssM_mem h.2 t ht
theorem putM_cons (t : Tm) (k : Int) (ks : List Int) (q : Tm) : putM t (k :: ks) q = if h : 0 ≤ k ∧ k.toNat < t.kids.length then .mk t.op t.n t.text (t.kids.set k.toNat (putM t.kids[k.toNat] ks q)) t.pats else t := by
  cases t; rfl
theorem putM_yes (t : Tm) (path : List Int) (k n : Nat) (q : Tm) (h : k < path.length) (hx : path[k] = (n : Int)) (hn : n < t.kids.length) : putM t (path.drop k) q = .mk t.op t.n t.text (t.kids.set n (putM t.kids[n] (path.drop (k + 1)) q)) t.pats := by
  rw [drop_cons path k h, putM_cons, dif_pos (by rw [hx]; exact ⟨by omega, by simpa using hn⟩)]
  simp [hx]
theorem put_fit (q : Tm) (h1 : okM q) (h2 : lensM q) : ∀ (path : List Int) (p : Tm), okM p → lensM p → okM (putM p path q) ∧ lensM (putM p path q) ∧ heightM (putM p path q) ≤ heightM p + heightM q
  | [], p, _, _ => by
    have e : putM p [] q = q := by cases p; rfl
    rw [e]; exact ⟨h1, h2, by omega⟩
  | k :: ks, p, hp, hl => by
    rw [putM_cons]
    split
    · rename_i hk
      cases p with
      | mk op n text kids pats =>
      unfold okM at hp; unfold lensM at hl
      have hk2 : k.toNat < kids.length := hk.2
      obtain ⟨i1, i2, i3⟩ := put_fit q h1 h2 ks (kids[k.toNat]'hk2) (oksM_mem hp.2.2 _ (List.getElem_mem hk2)) (lenssM_mem hl.2.2.2 _ (List.getElem_mem hk2))
      have hh := heightsM_get kids k.toNat hk2
      show okM (.mk op n text (kids.set k.toNat (putM (kids[k.toNat]'hk2) ks q)) pats) ∧ lensM (.mk op n text (kids.set k.toNat (putM (kids[k.toNat]'hk2) ks q)) pats) ∧ heightM (.mk op n text (kids.set k.toNat (putM (kids[k.toNat]'hk2) ks q)) pats) ≤ _
      generalize putM (kids[k.toNat]'hk2) ks q = r at *
      have hmem : ∀ t ∈ kids.set k.toNat r, t ∈ kids ∨ t = r := fun t ht => List.mem_or_eq_of_mem_set ht
      refine ⟨?_, ?_, ?_⟩
      · unfold okM
        exact ⟨hp.1, hp.2.1, oksM_all fun t ht => (hmem t ht).elim (oksM_mem hp.2.2 t) fun e => e ▸ i1⟩
      · unfold lensM
        exact ⟨by rw [List.length_set]; exact hl.1, hl.2.1, hl.2.2.1, lenssM_all fun t ht => (hmem t ht).elim (lenssM_mem hl.2.2.2 t) fun e => e ▸ i2⟩
      · have : heightsM (kids.set k.toNat r) ≤ heightsM kids + heightM q := heightsM_le fun t ht => by
          rcases hmem t ht with h | rfl
          · obtain ⟨j, hj, rfl⟩ := List.getElem_of_mem h
            have := heightsM_get kids j hj
            omega
          · omega
        rw [height_eq (.mk op n text (kids.set k.toNat r) pats), height_eq (.mk op n text kids pats)]
        show heightsM (kids.set k.toNat r) + 1 ≤ heightsM kids + 1 + heightM q
        omega
    · exact ⟨hp, hl, by omega⟩

theorem put1 (W : World) (b i : Nat) (u t : Value) (h : W.cell? ⟨b, i, none⟩ = some t) : (W.setCell ⟨b, i, none⟩ u).cell? ⟨b, i, none⟩ = some u ∧ ∀ j, j ≠ i → (W.setCell ⟨b, i, none⟩ u).cell? ⟨b, j, none⟩ = W.cell? ⟨b, j, none⟩ := by
  refine ⟨?_, fun j hj => ?_⟩
  · apply World.cell?_setCell_same
    exact h
  · apply World.cell?_setCell_other
    intro e
    cases e
    exact hj rfl
theorem put5 (W : World) (b o : Nat) (t0 t1 t2 t3 t4 u0 u1 u2 u3 u4 : Value) (h0 : W.cell? ⟨b, o, none⟩ = some t0) (h1 : W.cell? ⟨b, o + 1, none⟩ = some t1) (h2 : W.cell? ⟨b, o + 2, none⟩ = some t2) (h3 : W.cell? ⟨b, o + 3, none⟩ = some t3) (h4 : W.cell? ⟨b, o + 4, none⟩ = some t4) :
    ∀ W', W' = (((((W.setCell ⟨b, o, none⟩ u0).setCell ⟨b, o + 1, none⟩ u1).setCell ⟨b, o + 2, none⟩ u2).setCell ⟨b, o + 3, none⟩ u3).setCell ⟨b, o + 4, none⟩ u4) →
    Kept (fun k => k = b) W W' ∧ (W'.cell? ⟨b, o, none⟩ = some u0 ∧ W'.cell? ⟨b, o + 1, none⟩ = some u1 ∧ W'.cell? ⟨b, o + 2, none⟩ = some u2 ∧ W'.cell? ⟨b, o + 3, none⟩ = some u3 ∧ W'.cell? ⟨b, o + 4, none⟩ = some u4) ∧
    ∀ j, (j < o ∨ o + 5 ≤ j) → W'.cell? ⟨b, j, none⟩ = W.cell? ⟨b, j, none⟩ := by
  intro W' hW
  rw [hW]
  obtain ⟨a0, b0⟩ := put1 W b o u0 t0 h0
  obtain ⟨a1, b1⟩ := put1 _ b (o + 1) u1 t1 ((b0 (o + 1) (by omega)).trans h1)
  obtain ⟨a2, b2⟩ := put1 _ b (o + 2) u2 t2 ((b1 (o + 2) (by omega)).trans ((b0 (o + 2) (by omega)).trans h2))
  obtain ⟨a3, b3⟩ := put1 _ b (o + 3) u3 t3 ((b2 (o + 3) (by omega)).trans ((b1 (o + 3) (by omega)).trans ((b0 (o + 3) (by omega)).trans h3)))
  obtain ⟨a4, b4⟩ := put1 _ b (o + 4) u4 t4 ((b3 (o + 4) (by omega)).trans ((b2 (o + 4) (by omega)).trans ((b1 (o + 4) (by omega)).trans ((b0 (o + 4) (by omega)).trans h4))))
  exact ⟨((((kept1 _ b _ u0).trans (kept1 _ b _ u1)).trans (kept1 _ b _ u2)).trans (kept1 _ b _ u3)).trans (kept1 _ b _ u4),
    ⟨(b4 o (by omega)).trans ((b3 o (by omega)).trans ((b2 o (by omega)).trans ((b1 o (by omega)).trans a0))), (b4 _ (by omega)).trans ((b3 _ (by omega)).trans ((b2 _ (by omega)).trans a1)), (b4 _ (by omega)).trans ((b3 _ (by omega)).trans a2), (b4 _ (by omega)).trans a3, a4⟩,
    fun j hj => (b4 j (by omega)).trans ((b3 j (by omega)).trans ((b2 j (by omega)).trans ((b1 j (by omega)).trans (b0 j (by omega)))))⟩

/-- What Put returns. -/
def PutEnd (p : Tm) (path : List Int) (q : Tm) (e : Ending) (W' : World) : Prop :=
  if (termB p && (atM p path).isSome && termB q) = true then
    if termB (putM p path q) = true then ∃ v, e = .returned (.tuple #[v, .int .i64 0]) ∧ TmAt W'.heap.size W' (putM p path q) v else e = .returned (.tuple #[zeroV, .int .i64 3])
  else e = .returned (.tuple #[zeroV, .int .i64 2])

set_option maxHeartbeats 4000000 in
set_option maxRecDepth 100000 in
theorem Put_any (p q : Tm) (v qv pv : Value) (path : List Int) (w : World) (hp : TmAt w.heap.size w p v) (hq : TmAt w.heap.size w q qv) (hpv : SlV w.heap.size pv path.length fun b o => IntsAt w path b o) (hl : path.length ≤ 1000000) (hf : Fit p) (hg : Fit q) :
    Calls Tryz.prog 40 #[v, pv, qv] w fun e w' => PutEnd p path q e w' ∧ Below w.heap.size w w' := by
  obtain ⟨a, cap, a', cap', rfl, htx, -, -⟩ := hp.parts
  obtain ⟨b, bcap, b', bcap', rfl, htx2, -, -⟩ := hq.parts
  have hW : ∃ W, W = ((w.alloc (.cells #[.int .i64 p.op, .int .i64 p.n, .string p.text, .slice a p.kids.length cap, .slice a' p.pats.length cap'] 32)).alloc (.cells #[.int .i64 q.op, .int .i64 q.n, .string q.text, .slice b q.kids.length bcap, .slice b' q.pats.length bcap'] 32)).alloc (.cells #[.int .i64 0, .int .i64 0, .string ⟨#[]⟩, .slice none 0 0, .slice none 0 0] 32) := ⟨_, rfl⟩
  obtain ⟨W, hW⟩ := hW
  have hB0 : Below w.heap.size w W := by rw [hW]; exact (((Below.refl w.heap.size w).alloc (Nat.le_refl _) _).alloc (by simp) _).alloc (by simp; omega) _
  have hWs : W.heap.size = w.heap.size + 3 := by rw [hW]; simp
  have hx3 : W.heap[w.heap.size]? = some (.cells #[.int .i64 p.op, .int .i64 p.n, .string p.text, .slice a p.kids.length cap, .slice a' p.pats.length cap'] 32 (0, 0)) := by
    rw [hW]; exact (Below.heap_alloc _ _ _ (by simp; omega)).trans ((Below.heap_alloc _ _ _ (by simp)).trans (heap_alloc_new w _))
  have hx5 : W.heap[w.heap.size + 1]? = some (.cells #[.int .i64 q.op, .int .i64 q.n, .string q.text, .slice b q.kids.length bcap, .slice b' q.pats.length bcap'] 32 (0, 0)) := by
    rw [hW]
    have := heap_alloc_new (w.alloc (.cells #[.int .i64 p.op, .int .i64 p.n, .string p.text, .slice a p.kids.length cap, .slice a' p.pats.length cap'] 32)) (.cells #[.int .i64 q.op, .int .i64 q.n, .string q.text, .slice b q.kids.length bcap, .slice b' q.pats.length bcap'] 32)
    rw [World.size_alloc] at this
    exact (Below.heap_alloc _ _ _ (by simp)).trans this
  have hx6 : W.heap[w.heap.size + 2]? = some (.cells #[.int .i64 0, .int .i64 0, .string ⟨#[]⟩, .slice none 0 0, .slice none 0 0] 32 (0, 0)) := by
    rw [hW]
    have := heap_alloc_new ((w.alloc (.cells #[.int .i64 p.op, .int .i64 p.n, .string p.text, .slice a p.kids.length cap, .slice a' p.pats.length cap'] 32)).alloc (.cells #[.int .i64 q.op, .int .i64 q.n, .string q.text, .slice b q.kids.length bcap, .slice b' q.pats.length bcap'] 32)) (.cells #[.int .i64 0, .int .i64 0, .string ⟨#[]⟩, .slice none 0 0, .slice none 0 0] 32)
    rw [World.size_alloc, World.size_alloc] at this
    exact this
  have HCP := Lib.hid fun (V : World) (hb : Below w.heap.size w V) => Check_any p _ V (TmAt.keep hb hb.size _ _ hp) hf.h hf.ok
  have HCQ := Lib.hid fun (V : World) (hb : Below w.heap.size w V) => Check_any q _ V (TmAt.keep hb hb.size _ _ hq) hg.h hg.ok
  have HLD := Lib.hid fun (V : World) (hb : Below w.heap.size w V) => leads_any p _ pv path V (TmAt.keep hb hb.size _ _ hp) (hpv.mono hb.size fun b o hlt hr => IntsAt.keep hb _ b o hlt hr) hl
  have HCOP := Lib.hid fun (V : World) (hb : Below w.heap.size w V) => copyS_any p _ V (TmAt.keep hb hb.size _ _ hp) hf.len
  have HCOQ := Lib.hid fun (V : World) (hb : Below w.heap.size w V) => copyOf_any q _ V (TmAt.keep hb hb.size _ _ hq) hg.len
  obtain ⟨pa, pcap, rfl, hpc, hplc, hpa⟩ := hpv.split
  have HPA := Lib.hid hpa; have HB0 := Lib.hid hB0
  have X3 := Lib.hid hx3; have X5 := Lib.hid hx5; have X6 := Lib.hid hx6
  clear hp hq hpv hpa hB0 hx5
  unfold maxLen at hpc
  cases hbp : termB p with
  | false =>
    have HE := Lib.hid (show ∀ W', PutEnd p path q (.returned (.tuple #[zeroV, .int .i64 2])) W' from fun W' => by simp [PutEnd, hbp])
    have HBP := Lib.hid hbp; clear hbp
    go_enter Tryz.func40, Tryz.ntmps40
    go_upto_region 1 with fail
    rw [← hW]
    clear hW
    obtain ⟨y0, y1, y2, y3, y4⟩ := cells5 hx3
    clear hx3 hx6
    go_wp2_with fail
    refine (HCP.out _ HB0.out).mono ?_
    rintro e w1 ⟨rfl, hbb⟩
    rw [HBP.out]
    have h2 : errOf false = 2 := rfl
    rw [h2]
    have x2 := bget' hbb X6.out
    obtain ⟨z0, z1, z2, z3, z4⟩ := cells5 x2
    have f2 := free_box x2
    have hs1 := hbb.size
    have HB := Lib.hid (HB0.out.trans (hbb.mono HB0.out.size))
    clear x2 hbb y0 y1 y2 y3 y4
    go_wp2
    have hkp := kept5 w1 (w.heap.size + 2)
    refine bodyPost_ret (v := .tuple #[zeroV, .int .i64 2]) (by simp [results, Tryz.results40, go_sem, z0, z1, z2, z3, z4, zeroV]) rfl ⟨HE.out _, HB.out.trans ((hkp _ _ _ _ _).below (by omega) (by rintro k rfl; omega))⟩
  | true =>
  have HBP := Lib.hid hbp; clear hbp
  have ht2 : errOf true = 0 := rfl
  have hf2 : errOf false = 2 := rfl
  cases hat : atM p path with
  | none =>
    have HE := Lib.hid (show ∀ W', PutEnd p path q (.returned (.tuple #[zeroV, .int .i64 2])) W' from fun W' => by simp [PutEnd, HBP.out, hat])
    have HAT := Lib.hid hat; clear hat
    go_enter Tryz.func40, Tryz.ntmps40
    go_upto_region 1 with fail
    rw [← hW]
    clear hW
    obtain ⟨y0, y1, y2, y3, y4⟩ := cells5 hx3
    clear hx3 hx6
    go_wp2_with fail
    refine (HCP.out _ HB0.out).mono ?_
    rintro e w1 ⟨rfl, hbb⟩
    rw [HBP.out, ht2]
    have HB1 := Lib.hid (HB0.out.trans (hbb.mono HB0.out.size))
    clear y0 y1 y2 y3 y4
    obtain ⟨y0, y1, y2, y3, y4⟩ := cells5 (bget' hbb X3.out)
    have X6' := Lib.hid (bget' hbb X6.out)
    have hs1 := hbb.size
    clear hbb
    go_wp2_with fail
    refine (HLD.out _ HB1.out).mono ?_
    rintro e w2 ⟨rfl, hbb⟩
    rw [HAT.out]
    have x2 := bget' hbb X6'.out
    obtain ⟨z0, z1, z2, z3, z4⟩ := cells5 x2
    have f2 := free_box x2
    have hs2 := hbb.size
    have HB := Lib.hid (HB1.out.trans (hbb.mono HB1.out.size))
    clear x2 hbb y0 y1 y2 y3 y4
    go_wp2
    have hkp := kept5 w2 (w.heap.size + 2)
    refine bodyPost_ret (v := .tuple #[zeroV, .int .i64 2]) (by simp [results, Tryz.results40, go_sem, z0, z1, z2, z3, z4, zeroV]) rfl ⟨HE.out _, HB.out.trans ((hkp _ _ _ _ _).below (by omega) (by rintro k rfl; omega))⟩
  | some r =>
  cases hbq : termB q with
  | false =>
    have HE := Lib.hid (show ∀ W', PutEnd p path q (.returned (.tuple #[zeroV, .int .i64 2])) W' from fun W' => by simp [PutEnd, hbq])
    have HAT := Lib.hid hat; have HBQ := Lib.hid hbq; clear hat hbq
    go_enter Tryz.func40, Tryz.ntmps40
    go_upto_region 1 with fail
    rw [← hW]
    clear hW
    obtain ⟨y0, y1, y2, y3, y4⟩ := cells5 hx3
    clear hx3 hx6
    go_wp2_with fail
    refine (HCP.out _ HB0.out).mono ?_
    rintro e w1 ⟨rfl, hbb⟩
    rw [HBP.out, ht2]
    have HB1 := Lib.hid (HB0.out.trans (hbb.mono HB0.out.size))
    clear y0 y1 y2 y3 y4
    obtain ⟨y0, y1, y2, y3, y4⟩ := cells5 (bget' hbb X3.out)
    have X6' := Lib.hid (bget' hbb X6.out); have X5' := Lib.hid (bget' hbb X5.out)
    have hs1 := hbb.size
    clear hbb
    go_wp2_with fail
    refine (HLD.out _ HB1.out).mono ?_
    rintro e w2 ⟨rfl, hbb⟩
    rw [HAT.out]
    have HB2 := Lib.hid (HB1.out.trans (hbb.mono HB1.out.size))
    have X6'' := Lib.hid (bget' hbb X6'.out)
    clear y0 y1 y2 y3 y4
    obtain ⟨y0, y1, y2, y3, y4⟩ := cells5 (bget' hbb X5'.out)
    have hs2 := hbb.size
    clear hbb
    go_wp2_with fail
    refine (HCQ.out _ HB2.out).mono ?_
    rintro e w3 ⟨rfl, hbb⟩
    rw [HBQ.out, hf2]
    have x2 := bget' hbb X6''.out
    obtain ⟨z0, z1, z2, z3, z4⟩ := cells5 x2
    have f2 := free_box x2
    have hs3 := hbb.size
    have HB := Lib.hid (HB2.out.trans (hbb.mono HB2.out.size))
    clear x2 hbb y0 y1 y2 y3 y4
    go_wp2
    have hkp := kept5 w3 (w.heap.size + 2)
    refine bodyPost_ret (v := .tuple #[zeroV, .int .i64 2]) (by simp [results, Tryz.results40, go_sem, z0, z1, z2, z3, z4, zeroV]) rfl ⟨HE.out _, HB.out.trans ((hkp _ _ _ _ _).below (by omega) (by rintro k rfl; omega))⟩
  | true =>
  have HAT := Lib.hid hat; have HBQ := Lib.hid hbq
  have hfin : ∀ e W', (if termB (putM p path q) = true then ∃ v, e = .returned (.tuple #[v, .int .i64 0]) ∧ TmAt W'.heap.size W' (putM p path q) v else e = .returned (.tuple #[zeroV, .int .i64 3])) → PutEnd p path q e W' := fun e W' h => by
    unfold PutEnd
    rw [if_pos (by simp [HBP.out, hat, hbq])]
    exact h
  have hfit : Fit (putM p path q) := by
    obtain ⟨i1, i2, i3⟩ := put_fit q hg.ok hg.len path p hf.ok hf.len
    have := termB_height HBP.out
    have := termB_height hbq
    exact ⟨by omega, i1, i2⟩
  have HFIN := Lib.hid hfin; have HFIT := Lib.hid hfit
  clear hat hbq hfin hfit
  go_enter Tryz.func40, Tryz.ntmps40
  go_upto_region 1 with fail
  rw [← hW]
  clear hW
  obtain ⟨y0, y1, y2, y3, y4⟩ := cells5 hx3
  clear hx3 hx6
  go_wp2_with fail
  refine (HCP.out _ HB0.out).mono ?_
  rintro e w1 ⟨rfl, hbb⟩
  rw [HBP.out, ht2]
  have HB1 := Lib.hid (HB0.out.trans (hbb.mono HB0.out.size))
  clear y0 y1 y2 y3 y4
  have X3' := Lib.hid (bget' hbb X3.out)
  obtain ⟨y0, y1, y2, y3, y4⟩ := cells5 X3'.out
  have X6' := Lib.hid (bget' hbb X6.out); have X5' := Lib.hid (bget' hbb X5.out)
  have hs1 := hbb.size
  clear hbb X3 X5 X6
  go_wp2_with fail
  refine (HLD.out _ HB1.out).mono ?_
  rintro e w2 ⟨rfl, hbb⟩
  rw [HAT.out]
  have HB2 := Lib.hid (HB1.out.trans (hbb.mono HB1.out.size))
  have X3 := Lib.hid (bget' hbb X3'.out); have X6 := Lib.hid (bget' hbb X6'.out); have X5 := Lib.hid (bget' hbb X5'.out)
  clear y0 y1 y2 y3 y4 X3' X5' X6'
  obtain ⟨y0, y1, y2, y3, y4⟩ := cells5 X5.out
  have hs2 := hbb.size
  clear hbb
  go_wp2_with fail
  refine (HCQ.out _ HB2.out).mono ?_
  rintro e w3 ⟨rfl, hbb⟩
  rw [HBQ.out, ht2]
  have HB3 := Lib.hid (HB2.out.trans (hbb.mono HB2.out.size))
  have X3' := Lib.hid (bget' hbb X3.out); have X6' := Lib.hid (bget' hbb X6.out); have X5' := Lib.hid (bget' hbb X5.out)
  have hs3 := hbb.size
  clear y0 y1 y2 y3 y4 X3 X5 X6 hbb
  obtain ⟨y0, y1, y2, y3, y4⟩ := cells5 X3'.out
  go_wp2_with fail
  refine (HCOP.out _ HB3.out).mono ?_
  rintro e w4 ⟨⟨cv, rfl, hcv⟩, hbb⟩
  have HB4 := Lib.hid (HB3.out.trans (hbb.mono HB3.out.size))
  have X6 := Lib.hid (bget' hbb X6'.out); have X5 := Lib.hid (bget' hbb X5'.out)
  have hs4 := hbb.size
  clear y0 y1 y2 y3 y4 X3' X5' X6' hbb
  obtain ⟨ro, rn, rt, ra, rkn, rc, ra', rpn, rc', rfl⟩ := hcv.shape
  have HCV := Lib.hid hcv; clear hcv
  go_upto_region 4 with fail
  have hPl : PlAt (w4.alloc (.cells #[.int .i64 ro, .int .i64 rn, .string rt, .slice ra rkn rc, .slice ra' rpn rc'] 32)) (Fresh w3 w4) w4.heap.size 0 p := by
    have hx := heap_alloc_new w4 (.cells #[.int .i64 ro, .int .i64 rn, .string rt, .slice ra rkn rc, .slice ra' rpn rc'] 32)
    obtain ⟨j0, j1, j2, j3, j4⟩ := cells5 hx
    exact ⟨fun x h => ⟨by have := h.2; simp; omega, by have := h.2; omega⟩, by simp, free_box hx, _, _, _, _, _, j0, j1, j2, j3, j4, SepM.keep (fun b h => Below.heap_alloc _ _ _ h.2) (fun _ h => h) _ _ HCV.out⟩
  have hb5 : Below w.heap.size w (w4.alloc (.cells #[.int .i64 ro, .int .i64 rn, .string rt, .slice ra rkn rc, .slice ra' rpn rc'] 32)) := HB4.out.trans ((Below.refl _ _).alloc (by have := HB4.out.size; omega) _)
  have hx5 := (Below.heap_alloc w4 (.cells #[.int .i64 ro, .int .i64 rn, .string rt, .slice ra rkn rc, .slice ra' rpn rc'] 32) _ (by omega)).trans X5.out
  have hx6 := (Below.heap_alloc w4 (.cells #[.int .i64 ro, .int .i64 rn, .string rt, .slice ra rkn rc, .slice ra' rpn rc'] 32) _ (by omega)).trans X6.out
  have hs5 : (w4.alloc (.cells #[.int .i64 ro, .int .i64 rn, .string rt, .slice ra rkn rc, .slice ra' rpn rc'] 32)).heap.size = w4.heap.size + 1 := by simp
  generalize (w4.alloc (.cells #[.int .i64 ro, .int .i64 rn, .string rt, .slice ra rkn rc, .slice ra' rpn rc'] 32)) = V at *
  have HPL := Lib.hid hPl; have HB5 := Lib.hid hb5; have X5 := Lib.hid hx5; have X6 := Lib.hid hx6
  have hs5' := HB5.out.size
  clear hPl hb5 hx5 hx6 HCP HCQ HLD HCOP HB0 HB1 HB2 HB3
  go_wp2
  go_loopw [9, 31] (fun pl i wr => ∃ (k b o : Nat) (B : Nat → Prop) (F : Tm → Tm) (sub : Tm), k ≤ path.length ∧ i = .int .i64 k ∧ pl = .pointer (some ⟨b, o, none⟩) ∧ wr = V ∧ Hid (atM p path = atM sub (path.drop k)) ∧ Hid (∀ T, F (putM sub (path.drop k) T) = putM p path T) ∧ Hid (PlAt V B b o sub) ∧ Hid (Clo V (Fresh w3 w4) B b o F w4.heap.size) ∧ Hid (∀ x, B x → Fresh w3 w4 x) ∧ w.heap.size + 3 ≤ b) (fun _ i _ => path.length - (intOf i).toNat)
  case atStart => exact ⟨0, w4.heap.size, 0, _, id, p, Nat.zero_le _, rfl, rfl, rfl, rfl, fun _ => rfl, HPL.out, Clo.root _ _ _ _, fun _ h => h, by omega⟩
  case round =>
    obtain ⟨k, rb, ro', B, F, sub, hk, rfl, rfl, rfl, HA, HF, HQ, HCLO, HBX, hrbn⟩ := hrel
    by_cases hlt : k < path.length
    · have hlt' : (k : Int) < (path.length : Int) := by omega
      obtain ⟨b, o, rfl, hbn, hss⟩ := HPA.out (by omega)
      have hg := (HB5.out.cell (p := ⟨b, _, none⟩) hbn).trans (IntsAt.get path b o hss k hlt)
      obtain ⟨x, hx⟩ : ∃ x, path[k] = x := ⟨_, rfl⟩
      have HXK := Lib.hid hx
      rw [hx] at hg
      have hin : 0 ≤ x ∧ x.toNat < sub.kids.length := Classical.byContradiction fun hno => by
        have h1 := atM_no sub path k hlt (by rw [HXK.out]; exact hno)
        have h3 := HA.out
        rw [HAT.out, h1] at h3
        cases h3
      obtain ⟨n, rfl⟩ := Int.eq_ofNat_of_zero_le hin.1
      have hx1 : n < sub.kids.length := by simpa using hin.2
      have HD := Lib.hid (atM_yes sub path k n hlt HXK.out hx1)
      have HD2 := Lib.hid (fun T => putM_yes sub path k n T hlt HXK.out hx1)
      obtain ⟨g, og, kcap, Bk, hc3, hpl', hclo', hbk', hgB⟩ := HCLO.out.step HBX.out HQ.out n hx1
      have HPL' := Lib.hid hpl'; have HCLO' := Lib.hid hclo'
      have hx2 : (n : Int) < (sub.kids.length : Int) := by omega
      have hgn : w.heap.size + 3 ≤ g := by have := (HBX.out g hgB).1; omega
      have HBX' := Lib.hid (fun x h => HBX.out x (hbk' x h))
      clear hin hss hx hpl' hclo' hbk' hgB
      go_wp2
      go_roundw
      case rel => exact ⟨k + 1, g, og + n * 5, Bk, _, _, by omega, by go_num, by first | trivial | rfl | simp, by first | trivial | rfl, HA.out.trans HD.out, fun T => by rw [← HD2.out]; exact HF.out T, HPL'.out, HCLO'.out, HBX'.out, hgn⟩
      case measure => simp [intOf]; omega
    · obtain rfl : k = path.length := by omega
      clear hk
      have hsub : F q = putM p path q := by
        have := HF.out q
        rw [List.drop_eq_nil_of_le (by omega)] at this
        have e : putM sub [] q = q := by cases sub; rfl
        rwa [e] at this
      have HSUB := Lib.hid hsub
      obtain ⟨j0, j1, j2, j3, j4⟩ := cells5 X5.out
      clear hsub HF HA
      go_wp2_with fail
      refine (HCOQ.out _ HB5.out).mono ?_
      rintro e w6 ⟨⟨cv, rfl, hcv⟩, hbb⟩
      obtain ⟨so, sn, st, sa, skn, sc, sa', spn, sc', rfl⟩ := hcv.shape
      have HCV2 := Lib.hid hcv; have HBB := Lib.hid hbb
      obtain ⟨p1, p2, p3, t0, t1, t2, t3, t4, u0, u1, u2, u3, u4, -⟩ := HQ.out
      have ff : ∀ j, w6.frozen? ⟨rb, j, none⟩ = false := p3.of (hbb.block rb p2)
      have r0 := (hbb.cell (p := ⟨rb, _, none⟩) p2).trans u0
      have r1 := (hbb.cell (p := ⟨rb, _, none⟩) p2).trans u1
      have r2 := (hbb.cell (p := ⟨rb, _, none⟩) p2).trans u2
      have r3 := (hbb.cell (p := ⟨rb, _, none⟩) p2).trans u3
      have r4 := (hbb.cell (p := ⟨rb, _, none⟩) p2).trans u4
      clear hcv hbb u0 u1 u2 u3 u4 j0 j1 j2 j3 j4 p3
      go_upto_region 11 with fail
      have hpt := put5 w6 rb ro' t0 t1 t2 t3 t4 (.int .i64 so) (.int .i64 sn) (.string st) (.slice sa skn sc) (.slice sa' spn sc') r0 r1 r2 r3 r4
      generalize (((((w6.setCell ⟨rb, ro', none⟩ (.int .i64 so)).setCell ⟨rb, ro' + 1, none⟩ (.int .i64 sn)).setCell ⟨rb, ro' + 2, none⟩ (.string st)).setCell ⟨rb, ro' + 3, none⟩ (.slice sa skn sc)).setCell ⟨rb, ro' + 4, none⟩ (.slice sa' spn sc')) = W7 at *
      obtain ⟨k1, ⟨v0, v1, v2, v3, v4⟩, v5⟩ := hpt W7 rfl
      have hs7 := k1.size
      have hb6 := HBB.out
      have hs6 := hb6.size
      have hcq : TmIn (fun x => w3.heap.size ≤ x ∧ x < W7.heap.size) W7 q (.agg #[.int .i64 so, .int .i64 sn, .string st, .slice sa skn sc, .slice sa' spn sc']) :=
        TmIn.keep (fun x h => k1.block x h.2 (by have := h.1; omega)) (fun x h => ⟨by have := h.1; omega, by have := h.2; omega⟩) _ _ HCV2.out
      obtain ⟨d0, d1, d2, d3, d4, l0, l1, l2, l3, l4, hrootI⟩ := HCLO.out (fun x => w3.heap.size ≤ x ∧ x < W7.heap.size) W7 q _ _ _ _ _ (fun x hx hne _ => (k1.block x (by omega) hne).trans (hb6.block x hx)) (fun j hj => (v5 j hj).trans (hb6.cell (p := ⟨rb, _, none⟩) p2)) (fun x h => ⟨h.1, by have := h.2; omega⟩) v0 v1 v2 v3 v4 hcq
      rw [HSUB.out] at hrootI
      have HRI := Lib.hid hrootI
      have hroot : TmAt W7.heap.size W7 (putM p path q) (.agg #[d0, d1, d2, d3, d4]) := TmIn.to (fun x h => h.2) _ _ hrootI
      clear hrootI
      obtain ⟨ga, gc, ga', gc', hre, -, -, -⟩ := hroot.parts
      simp only [Value.agg.injEq, Array.mk.injEq, List.cons.injEq, and_true] at hre
      obtain ⟨rfl, rfl, rfl, rfl, rfl⟩ := hre
      have hbW : Below w.heap.size w W7 := (HB5.out.trans (hb6.mono (by omega))).trans (k1.below (by omega) (by rintro x rfl; omega))
      have x6 : W7.heap[w.heap.size + 2]? = _ := (k1.block _ (by omega) (by omega)).trans (bget' hb6 X6.out)
      have HX6 := Lib.hid x6; have HBW := Lib.hid hbW; have HRT := Lib.hid hroot
      have hft := fitting_any (putM p path q) _ W7 hroot HFIT.out
      clear v0 v1 v2 v3 v4 v5 k1 hcq hroot hbW x6 ff r0 r1 r2 r3 r4 hb6 p1
      cases htb : termB (putM p path q) with
      | false =>
        rw [htb] at hft
        have HFT := Lib.hid hft
        have HEND := Lib.hid (fun W' => show PutEnd p path q (.returned (.tuple #[zeroV, .int .i64 3])) W' from HFIN.out _ _ (by simp [htb]))
        simp only [Bool.false_eq_true, if_false] at HFT
        clear hft htb
        go_wp2_with fail
        refine HFT.out.mono ?_
        rintro e w8 ⟨rfl, hb8⟩
        have x2 := bget' hb8 HX6.out
        obtain ⟨z0, z1, z2, z3, z4⟩ := cells5 x2
        have f2 := free_box x2
        have hs8 := hb8.size
        have hkp := kept5 w8 (w.heap.size + 2)
        have HB := Lib.hid (HBW.out.trans (hb8.mono HBW.out.size))
        clear hb8 x2 l0 l1 l2 l3 l4
        unfold zeroV
        go_wp2
        refine bodyPost_ret (v := .tuple #[zeroV, .int .i64 3]) (by simp [results, Tryz.results40, go_sem, z0, z1, z2, z3, z4, zeroV]) rfl ⟨HEND.out _, HB.out.trans ((hkp _ _ _ _ _).below (by omega) (by rintro k rfl; omega))⟩
      | true =>
        rw [htb] at hft
        have HFT := Lib.hid hft
        have HTB := Lib.hid htb
        simp only [if_true] at HFT
        clear hft htb
        go_wp2_with fail
        refine HFT.out.mono ?_
        rintro e w8 ⟨rfl, hb8⟩
        have x2 := bget' hb8 HX6.out
        obtain ⟨z0, z1, z2, z3, z4⟩ := cells5 x2
        have f2 := free_box x2
        have hs8 := hb8.size
        have hkp := kept5 w8 (w.heap.size + 2)
        have HB := Lib.hid (HBW.out.trans (hb8.mono HBW.out.size))
        have HB8 := Lib.hid hb8
        clear hb8 x2 l0 l1 l2 l3 l4
        go_wp2
        have hkp2 := hkp (.int .i64 (putM p path q).op) (.int .i64 (putM p path q).n) (.string (putM p path q).text) (.slice ga (putM p path q).kids.length gc) (.slice ga' (putM p path q).pats.length gc')
        have hks := hkp2.size
        have hrt := TmIn.to (n₀ := w8.heap.size) (fun x h => by have := h.2; omega) _ _ (TmIn.keep (B' := fun x => w3.heap.size ≤ x ∧ x < W7.heap.size) (fun x h => (hkp2.block x (by have := h.2; omega) (by have := h.1; omega)).trans (HB8.out.block x h.2)) (fun _ h => h) _ _ HRI.out)
        have hrt2 := TmAt.keep (n₁ := _) (Below.refl w8.heap.size _) hks _ _ hrt
        have HEND := Lib.hid (HFIN.out (.returned (.tuple #[.agg #[.int .i64 (putM p path q).op, .int .i64 (putM p path q).n, .string (putM p path q).text, .slice ga (putM p path q).kids.length gc, .slice ga' (putM p path q).pats.length gc'], .int .i64 0])) _ (by rw [if_pos HTB.out]; exact ⟨_, rfl, hrt2⟩))
        refine bodyPost_ret (v := .tuple #[.agg #[.int .i64 (putM p path q).op, .int .i64 (putM p path q).n, .string (putM p path q).text, .slice ga (putM p path q).kids.length gc, .slice ga' (putM p path q).pats.length gc'], .int .i64 0]) (by simp [results, Tryz.results40, go_sem, z0, z1, z2, z3, z4]) rfl ⟨HEND.out, HB.out.trans (hkp2.below (by omega) (by rintro k rfl; omega))⟩
end Go.Proofs.YtjpahjfjpkbcnaaGreat

/- Put by the specification: a row of kids copied, one of them changed. -/
namespace Go.Proofs.YtjpahjfjpkbcnaaGreat
open Go.Proofs Go.RowKit

mutual
theorem PtAt.keepH {n₀ n₁ : Nat} {w w' : World} (hb : ∀ b, b < n₀ → w'.heap[b]? = w.heap[b]?) (hn : n₀ ≤ n₁) : ∀ (p : Pt) (v : Value), PtAt n₀ w p v → PtAt n₁ w' p v
  | .mk form n text parts, v, h => by
    unfold PtAt at h ⊢
    obtain ⟨kv, h1, h2, h3⟩ := h
    exact ⟨kv, h1, h2, h3.mono hn fun b o hlt hr => PtsAt.keepH hb hn parts b o hlt hr⟩
theorem PtsAt.keepH {n₀ n₁ : Nat} {w w' : World} (hb : ∀ b, b < n₀ → w'.heap[b]? = w.heap[b]?) (hn : n₀ ≤ n₁) : ∀ (ps : List Pt) (b o : Nat), b < n₀ → PtsAt n₀ w ps b o → PtsAt n₁ w' ps b o
  | [], _, _, _, _ => by unfold PtsAt; trivial
  | p :: ps, b, o, hlt, h => by
    unfold PtsAt at h ⊢
    obtain ⟨⟨c0, c1, c2, c3, h0, h1, h2, h3, hp⟩, hs⟩ := h
    exact ⟨⟨c0, c1, c2, c3, (cell_of_heap (hb b hlt)).trans h0, (cell_of_heap (hb b hlt)).trans h1, (cell_of_heap (hb b hlt)).trans h2, (cell_of_heap (hb b hlt)).trans h3, PtAt.keepH hb hn p _ hp⟩, PtsAt.keepH hb hn ps b _ hlt hs⟩
end
mutual
theorem TmAt.keepH {n₀ n₁ : Nat} {w w' : World} (hb : ∀ b, b < n₀ → w'.heap[b]? = w.heap[b]?) (hn : n₀ ≤ n₁) : ∀ (p : Tm) (v : Value), TmAt n₀ w p v → TmAt n₁ w' p v
  | .mk op n text kids pats, v, h => by
    unfold TmAt at h ⊢
    obtain ⟨kv, pv, h1, h2, h3, h4⟩ := h
    exact ⟨kv, pv, h1, h2, h3.mono hn fun b o hlt hr => TmsAt.keepH hb hn kids b o hlt hr, h4.mono hn fun b o hlt hr => PtsAt.keepH hb hn pats b o hlt hr⟩
theorem TmsAt.keepH {n₀ n₁ : Nat} {w w' : World} (hb : ∀ b, b < n₀ → w'.heap[b]? = w.heap[b]?) (hn : n₀ ≤ n₁) : ∀ (ps : List Tm) (b o : Nat), b < n₀ → TmsAt n₀ w ps b o → TmsAt n₁ w' ps b o
  | [], _, _, _, _ => by unfold TmsAt; trivial
  | p :: ps, b, o, hlt, h => by
    unfold TmsAt at h ⊢
    obtain ⟨⟨c0, c1, c2, c3, c4, h0, h1, h2, h3, h4, hp⟩, hs⟩ := h
    exact ⟨⟨c0, c1, c2, c3, c4, (cell_of_heap (hb b hlt)).trans h0, (cell_of_heap (hb b hlt)).trans h1, (cell_of_heap (hb b hlt)).trans h2, (cell_of_heap (hb b hlt)).trans h3, (cell_of_heap (hb b hlt)).trans h4, TmAt.keepH hb hn p _ hp⟩, TmsAt.keepH hb hn ps b _ hlt hs⟩
end

/-- A term whatever becomes of the blocks that S leaves out. -/
def TmFar (S : Nat → Prop) (W : World) (T : Tm) (v : Value) : Prop := ∀ (w' : World) (n₁ : Nat), (∀ b, S b → b < W.heap.size → w'.heap[b]? = W.heap[b]?) → W.heap.size ≤ n₁ → TmAt n₁ w' T v
theorem TmFar.at {S : Nat → Prop} {W : World} {T : Tm} {v : Value} (h : TmFar S W T v) : TmAt W.heap.size W T v := h W _ (fun _ _ _ => rfl) (Nat.le_refl _)

/-- The cells of some terms in a row. -/
def FlatA (n₀ : Nat) (w : World) : List Tm → List Value → Prop
  | [], cs => cs = []
  | p :: ps, cs => ∃ c0 c1 c2 c3 c4 r, cs = c0 :: c1 :: c2 :: c3 :: c4 :: r ∧ TmAt n₀ w p (.agg #[c0, c1, c2, c3, c4]) ∧ FlatA n₀ w ps r
theorem FlatA.of {n₀ : Nat} {w : World} {b : Nat} : ∀ (ps : List Tm) (o : Nat), TmsAt n₀ w ps b o → ∃ cs, FlatA n₀ w ps cs ∧ ∀ j u, cs[j]? = some u → w.cell? ⟨b, o + j, none⟩ = some u
  | [], _, _ => ⟨[], rfl, fun j u h => by simp at h⟩
  | p :: ps, o, h => by
    unfold TmsAt at h
    obtain ⟨⟨c0, c1, c2, c3, c4, h0, h1, h2, h3, h4, hp⟩, hs⟩ := h
    obtain ⟨r, hr, hc⟩ := FlatA.of ps (o + 5) hs
    refine ⟨c0 :: c1 :: c2 :: c3 :: c4 :: r, ⟨c0, c1, c2, c3, c4, r, rfl, hp, hr⟩, fun j u hj => ?_⟩
    match j with
    | 0 => cases hj; exact h0
    | 1 => cases hj; exact h1
    | 2 => cases hj; exact h2
    | 3 => cases hj; exact h3
    | 4 => cases hj; exact h4
    | j + 5 =>
      have := hc j u hj
      rwa [Nat.add_assoc, Nat.add_comm 5 j] at this
theorem FlatA.length {n₀ : Nat} {w : World} : ∀ (ps : List Tm) (cs : List Value), FlatA n₀ w ps cs → cs.length = ps.length * 5
  | [], cs, h => by cases h; rfl
  | p :: ps, cs, ⟨c0, c1, c2, c3, c4, r, h1, h2, h3⟩ => by
    rw [h1]
    have := FlatA.length ps r h3
    simp only [List.length_cons]
    omega
theorem FlatA.one {n₀ : Nat} {w : World} : ∀ (ps : List Tm) (cs : List Value), FlatA n₀ w ps cs → ∀ u ∈ cs, u.oneCell' = true
  | [], cs, h, u, hu => by cases h; cases hu
  | p :: ps, cs, ⟨c0, c1, c2, c3, c4, r, h1, h2, h3⟩, u, hu => by
    obtain ⟨o, n, t, ka, kn, kc, pa, pn, pc, rfl, rfl, rfl, rfl, rfl⟩ := h2.shape
    rw [h1] at hu
    simp only [List.mem_cons] at hu
    rcases hu with rfl | rfl | rfl | rfl | rfl | hu
    · rfl
    · rfl
    · rfl
    · rfl
    · rfl
    · exact FlatA.one ps r h3 u hu
theorem FlatA.keep {n₀ n₁ : Nat} {w w' : World} (hb : ∀ b, b < n₀ → w'.heap[b]? = w.heap[b]?) (hn : n₀ ≤ n₁) : ∀ (ps : List Tm) (cs : List Value), FlatA n₀ w ps cs → FlatA n₁ w' ps cs
  | [], _, h => h
  | _ :: ps, _, ⟨c0, c1, c2, c3, c4, r, h1, h2, h3⟩ => ⟨c0, c1, c2, c3, c4, r, h1, TmAt.keepH hb hn _ _ h2, FlatA.keep hb hn ps r h3⟩
theorem FlatA.tms {n₀ : Nat} {w : World} {b : Nat} : ∀ (ps : List Tm) (cs : List Value) (o : Nat), FlatA n₀ w ps cs → (∀ j u, cs[j]? = some u → w.cell? ⟨b, o + j, none⟩ = some u) → TmsAt n₀ w ps b o
  | [], _, _, _, _ => by unfold TmsAt; trivial
  | p :: ps, _, o, ⟨c0, c1, c2, c3, c4, r, h1, h2, h3⟩, hc => by
    subst h1
    unfold TmsAt
    refine ⟨⟨c0, c1, c2, c3, c4, hc 0 c0 rfl, hc 1 c1 rfl, hc 2 c2 rfl, hc 3 c3 rfl, hc 4 c4 rfl, h2⟩, FlatA.tms ps r (o + 5) h3 fun i u hi => ?_⟩
    rw [Nat.add_assoc, Nat.add_comm 5 i]; exact hc (i + 5) u hi
theorem FlatA.set {n₀ : Nat} {w : World} {b : Nat} {T : Tm} {e0 e1 e2 e3 e4 : Value} : ∀ (ps : List Tm) (cs : List Value) (o k : Nat), k < ps.length → FlatA n₀ w ps cs → (∀ j u, (j < k * 5 ∨ k * 5 + 5 ≤ j) → cs[j]? = some u → w.cell? ⟨b, o + j, none⟩ = some u) →
    w.cell? ⟨b, o + k * 5, none⟩ = some e0 → w.cell? ⟨b, o + k * 5 + 1, none⟩ = some e1 → w.cell? ⟨b, o + k * 5 + 2, none⟩ = some e2 → w.cell? ⟨b, o + k * 5 + 3, none⟩ = some e3 → w.cell? ⟨b, o + k * 5 + 4, none⟩ = some e4 → TmAt n₀ w T (.agg #[e0, e1, e2, e3, e4]) → TmsAt n₀ w (ps.set k T) b o
  | [], _, _, _, hk, _, _, _, _, _, _, _, _ => absurd hk (by simp)
  | p :: ps, _, o, 0, _, ⟨c0, c1, c2, c3, c4, r, h1, h2, h3⟩, hc, g0, g1, g2, g3, g4, ht => by
    subst h1
    simp only [Nat.zero_mul, Nat.add_zero] at g0 g1 g2 g3 g4
    show TmsAt n₀ w (T :: ps) b o
    unfold TmsAt
    refine ⟨⟨e0, e1, e2, e3, e4, g0, g1, g2, g3, g4, ht⟩, FlatA.tms ps r (o + 5) h3 fun i u hi => ?_⟩
    rw [Nat.add_assoc, Nat.add_comm 5 i]; exact hc (i + 5) u (by omega) hi
  | p :: ps, _, o, k + 1, hk, ⟨c0, c1, c2, c3, c4, r, h1, h2, h3⟩, hc, g0, g1, g2, g3, g4, ht => by
    subst h1
    show TmsAt n₀ w (p :: ps.set k T) b o
    unfold TmsAt
    refine ⟨⟨c0, c1, c2, c3, c4, hc 0 c0 (by omega) rfl, hc 1 c1 (by omega) rfl, hc 2 c2 (by omega) rfl, hc 3 c3 (by omega) rfl, hc 4 c4 (by omega) rfl, h2⟩, FlatA.set ps r (o + 5) k (by simpa using hk) h3 (fun i u hi1 hi => ?_) ?_ ?_ ?_ ?_ ?_ ht⟩
    · rw [Nat.add_assoc, Nat.add_comm 5 i]; exact hc (i + 5) u (by omega) hi
    all_goals (first | rw [show o + 5 + k * 5 = o + (k + 1) * 5 by omega]; assumption)

theorem row_some {w : World} {b : Nat} {cur : Array Value} {t : TypeId} (h : w.heap[b]? = some (.cells cur t (0, 0))) {i : Nat} (hi : i < cur.size) : w.cell? ⟨b, i, none⟩ = some cur[i] := by
  rw [cell_box h, Array.getElem?_eq_getElem hi]
theorem three_boxes (w : World) (x y z : Array Value) (t : TypeId) : ∃ W, W = ((w.alloc (.cells x t)).alloc (.cells y t)).alloc (.cells z t) ∧ Below w.heap.size w W ∧ W.heap.size = w.heap.size + 3 ∧ W.heap[w.heap.size]? = some (.cells x t (0, 0)) ∧ W.heap[w.heap.size + 1]? = some (.cells y t (0, 0)) ∧ W.heap[w.heap.size + 2]? = some (.cells z t (0, 0)) := by
  refine ⟨_, rfl, (((Below.refl w.heap.size w).alloc (Nat.le_refl _) _).alloc (by simp) _).alloc (by simp; omega) _, by simp, ?_, ?_, ?_⟩
  · exact (Below.heap_alloc _ _ _ (by simp; omega)).trans ((Below.heap_alloc _ _ _ (by simp)).trans (heap_alloc_new w _))
  · have := heap_alloc_new (w.alloc (.cells x t)) (.cells y t)
    rw [World.size_alloc] at this
    exact (Below.heap_alloc _ _ _ (by simp)).trans this
  · have := heap_alloc_new ((w.alloc (.cells x t)).alloc (.cells y t)) (.cells z t)
    rw [World.size_alloc, World.size_alloc] at this
    exact this

theorem putR_far {w w' w1 W7 W9 : World} {n₀ rg rcap n cap' : Nat} {p r : Tm} {a' : Option Addr} {cs : List Value} {cur : Array Value} {u0 u1 u2 u3 u4 : Value}
    (k2 : Kept (fun k => k = w.heap.size ∨ k = w.heap.size + 2) W7 W9) (hrg : w.heap.size + 3 ≤ rg) (hrgl : rg < w'.heap.size) (hs : w'.heap.size ≤ w1.heap.size) (k1 : Kept (fun k => k = rg) w1 W7) (hbf : Below w.heap.size w w1)
    (hrm : rcap ≤ maxLen) (hrn : p.kids.length ≤ rcap) (hrh1 : w1.heap[rg]? = some (.cells cur 32 (0, 0))) (hrt : cur.toList.take (p.kids.length * 5) = cs) (hfl : FlatA n₀ w p.kids cs)
    (hp : SlV n₀ (.slice a' p.pats.length cap') p.pats.length fun b o => PtsAt n₀ w p.pats b o) (htx : p.text.size ≤ maxLen) (hn0 : n₀ ≤ w.heap.size) (hn : n < p.kids.length)
    (v0 : W7.cell? ⟨rg, n * 5, none⟩ = some u0) (v1 : W7.cell? ⟨rg, n * 5 + 1, none⟩ = some u1) (v2 : W7.cell? ⟨rg, n * 5 + 2, none⟩ = some u2) (v3 : W7.cell? ⟨rg, n * 5 + 3, none⟩ = some u3) (v4 : W7.cell? ⟨rg, n * 5 + 4, none⟩ = some u4)
    (v5 : ∀ j, (j < n * 5 ∨ n * 5 + 5 ≤ j) → W7.cell? ⟨rg, j, none⟩ = w1.cell? ⟨rg, j, none⟩) (hr : TmFar (fun b => b < n₀ ∨ w'.heap.size ≤ b) w1 r (.agg #[u0, u1, u2, u3, u4])) :
    TmFar (fun b => b < n₀ ∨ w.heap.size ≤ b) W9 (.mk p.op p.n p.text (p.kids.set n r) p.pats) (.agg #[.int .i64 p.op, .int .i64 p.n, .string p.text, .slice (some ⟨rg, 0, none⟩) p.kids.length rcap, .slice a' p.pats.length cap']) := by
  intro w'' n₁ hw hn1
  have z1 := k1.size
  have z2 := k2.size
  have z3 := hbf.size
  have old : ∀ b, b < n₀ → w''.heap[b]? = w1.heap[b]? := fun b h => (hw b (.inl h) (by omega)).trans ((k2.block b (by omega) (by omega)).trans (k1.block b (by omega) (by omega)))
  have old2 : ∀ b, b < n₀ → w''.heap[b]? = w.heap[b]? := fun b h => (old b h).trans (hbf.block b (by omega))
  have new : ∀ b, w'.heap.size ≤ b → b < w1.heap.size → w''.heap[b]? = w1.heap[b]? := fun b h1 h2 => (hw b (.inr (by omega)) (by omega)).trans ((k2.block b (by omega) (by omega)).trans (k1.block b (by omega) (by omega)))
  have row : w''.heap[rg]? = W7.heap[rg]? := (hw rg (.inr (by omega)) (by omega)).trans (k2.block rg (by omega) (by omega))
  have rc : ∀ j, w''.cell? ⟨rg, j, none⟩ = W7.cell? ⟨rg, j, none⟩ := fun j => cell_of_heap row
  unfold TmAt
  refine ⟨_, _, rfl, htx, .inr ⟨rg, 0, rcap, by rw [List.length_set], by rw [List.length_set]; exact hrn, hrm, by omega, ?_⟩, ?_⟩
  · refine FlatA.set (n₀ := n₁) p.kids cs 0 n hn (FlatA.keep old2 (by omega) _ _ hfl) (fun j u hj hu => ?_) ?_ ?_ ?_ ?_ ?_ (hr w'' n₁ (fun b hb hlt => hb.elim (old b) fun h => new b h hlt) (by omega))
    · rw [Nat.zero_add, rc, v5 j hj, cell_box hrh1]
      rw [← hrt, List.getElem?_take] at hu
      split at hu
      · simpa using hu
      · cases hu
    all_goals (rw [Nat.zero_add, rc]; assumption)
  · exact hp.mono (by omega) fun b o hlt h => PtsAt.keepH old2 (by omega) _ _ _ hlt h

set_option maxHeartbeats 8000000 in
set_option maxRecDepth 100000 in
theorem refPut_any (q : Tm) (n₀ : Nat) : ∀ (path : List Int) (p : Tm) (v qv pv : Value) (w : World) (_ : n₀ ≤ w.heap.size) (_ : TmAt n₀ w p v) (_ : TmAt n₀ w q qv) (_ : SlV n₀ pv path.length fun b o => IntsAt w path b o) (_ : path.length ≤ 1000000) (_ : lensM p) (_ : (atM p path).isSome = true),
    Calls Tryz.prog 46 #[v, pv, qv] w fun e w' => (∃ v', e = .returned v' ∧ TmFar (fun b => b < n₀ ∨ w.heap.size ≤ b) w' (putM p path q) v') ∧ Below w.heap.size w w' := by
  intro path
  induction path with
  | nil =>
    intro p v qv pv w hn0 hp hq hpv hl hlen hat
    obtain ⟨a, cap, a', cap', rfl, htx, -, -⟩ := hp.parts
    obtain ⟨b, bcap, b', bcap', rfl, htx2, -, -⟩ := hq.parts
    obtain ⟨pa, pcap, rfl, -⟩ := hpv.split
    have e : putM p [] q = q := by cases p; rfl
    rw [e]
    have HQ := Lib.hid hq
    clear hp hq hpv hat e
    obtain ⟨W, hW, hB0, hs, -, hx5, hx6⟩ := three_boxes w #[.int .i64 p.op, .int .i64 p.n, .string p.text, .slice a p.kids.length cap, .slice a' p.pats.length cap'] #[.int .i64 q.op, .int .i64 q.n, .string q.text, .slice b q.kids.length bcap, .slice b' q.pats.length bcap'] #[.int .i64 0, .int .i64 0, .string ⟨#[]⟩, .slice none 0 0, .slice none 0 0] 32
    have HB0 := Lib.hid hB0
    obtain ⟨y0, y1, y2, y3, y4⟩ := cells5 hx5
    obtain ⟨z0, z1, z2, z3, z4⟩ := cells5 hx6
    have f2 := free_box hx6
    clear hB0 hx5 hx6
    go_enter Tryz.func46, Tryz.ntmps46
    go_upto_region 1 with fail
    rw [← hW]
    clear hW
    go_wp2
    have hkp := kept5 W (w.heap.size + 2) (.int .i64 q.op) (.int .i64 q.n) (.string q.text) (.slice b q.kids.length bcap) (.slice b' q.pats.length bcap')
    have hbf := HB0.out.trans (hkp.below (n₀ := w.heap.size) (by omega) (by rintro k rfl; omega))
    have hsz := hbf.size
    have hfar : TmFar (fun b => b < n₀ ∨ w.heap.size ≤ b) _ q (.agg #[.int .i64 q.op, .int .i64 q.n, .string q.text, .slice b q.kids.length bcap, .slice b' q.pats.length bcap']) := fun w'' n₁ hw hn => TmAt.keepH (fun b hb => (hw b (.inl hb) (Nat.lt_of_lt_of_le (Nat.lt_of_lt_of_le hb hn0) hsz)).trans (hbf.block b (by omega))) (by omega) _ _ HQ.out
    refine bodyPost_ret (v := .agg #[.int .i64 q.op, .int .i64 q.n, .string q.text, .slice b q.kids.length bcap, .slice b' q.pats.length bcap']) (by simp [results, Tryz.results46, go_sem, z0, z1, z2, z3, z4]) rfl ⟨⟨_, rfl, hfar⟩, hbf⟩
  | cons x xs ih =>
    intro p v qv pv w hn0 hp hq hpv hl hlen hat
    have hin : 0 ≤ x ∧ x.toNat < p.kids.length := Classical.byContradiction fun hno => by
      have h1 : atM p (x :: xs) = none := by
        show (if h : _ then _ else _) = _
        rw [dif_neg hno]
      rw [h1] at hat; cases hat
    obtain ⟨n, rfl⟩ := Int.eq_ofNat_of_zero_le hin.1
    have hx1 : n < p.kids.length := by simpa using hin.2
    have hat2 : (atM p.kids[n] xs).isSome = true := by
      have h1 : atM p ((n : Int) :: xs) = atM p.kids[n] xs := by
        show (if h : _ then _ else _) = _
        rw [dif_pos hin]; simp
      rwa [h1] at hat
    have hput : putM p ((n : Int) :: xs) q = .mk p.op p.n p.text (p.kids.set n (putM p.kids[n] xs q)) p.pats := by
      rw [putM_cons, dif_pos hin]; simp
    rw [hput]
    obtain ⟨a, cap, a', cap', rfl, htx, hpk, hpp⟩ := hp.parts
    obtain ⟨b, bcap, b', bcap', rfl, htx2, -, -⟩ := hq.parts
    obtain ⟨pa, pcap, rfl, hpc, hplc, hpa⟩ := hpv.split
    obtain ⟨pb, po, rfl, hpbn, hps⟩ := hpa (by simp)
    obtain ⟨ka, kcap, hke, hkc, hklc, hkk⟩ := hpk.split
    simp only [Value.slice.injEq, true_and] at hke
    obtain ⟨rfl, rfl⟩ := hke
    obtain ⟨kb, ko, rfl, hkb, hks⟩ := hkk (by omega)
    obtain ⟨cs, hflat, hcs⟩ := FlatA.of _ _ hks
    have hcl := FlatA.length _ _ hflat
    have hone := FlatA.one _ _ hflat
    obtain ⟨c0, c1, c2, c3, c4, g0, g1, g2, g3, g4, hkid⟩ := TmsAt.get p.kids kb ko hks n hx1
    obtain ⟨ra, rc, ra', rc', hre, -, -, -⟩ := hkid.parts
    simp only [Value.agg.injEq, Array.mk.injEq, List.cons.injEq, and_true] at hre
    obtain ⟨rfl, rfl, rfl, rfl, rfl⟩ := hre
    obtain ⟨W, hW, hB0, hs, hx3, hx5, hx6⟩ := three_boxes w #[.int .i64 p.op, .int .i64 p.n, .string p.text, .slice (some ⟨kb, ko, none⟩) p.kids.length cap, .slice a' p.pats.length cap'] #[.int .i64 q.op, .int .i64 q.n, .string q.text, .slice b q.kids.length bcap, .slice b' q.pats.length bcap'] #[.int .i64 0, .int .i64 0, .string ⟨#[]⟩, .slice none 0 0, .slice none 0 0] 32
    have hlk : p.kids.length ≤ 1000000 := by cases p; unfold lensM at hlen; exact hlen.1
    have hlenk : lensM p.kids[n] := by
      cases p; unfold lensM at hlen; exact lensM_get hlen.2.2.2 n hx1
    obtain ⟨i0, hi, hz0, hz1, hz2⟩ := info_parts Tz.info32
    have HB0 := Lib.hid hB0; have X3 := Lib.hid hx3; have X5 := Lib.hid hx5; have X6 := Lib.hid hx6
    have HP := Lib.hid hpp; have HQ := Lib.hid hq; have HFL := Lib.hid hflat; have HKID := Lib.hid hkid; have HIH := Lib.hid ih
    have hx0 : w.cell? ⟨pb, po, none⟩ = some (.int .i64 n) := hps.1
    have hps2 : IntsAt w xs pb (po + 1) := hps.2
    have hq0 := (hB0.cell (p := ⟨pb, po, none⟩) (Nat.lt_of_lt_of_le hpbn hn0)).trans hx0
    have hnews : ∀ j u, cs[j]? = some u → W.cell? ((⟨kb, ko, none⟩ : Addr).add j) = some u := fun j u hj => by
      have : ((⟨kb, ko, none⟩ : Addr).add j) = ⟨kb, ko + j, none⟩ := by unfold Addr.add; split <;> simp_all
      rw [this]
      exact (hB0.cell (p := ⟨kb, _, none⟩) (Nat.lt_of_lt_of_le hkb hn0)).trans (hcs j u hj)
    have HNW := Lib.hid hnews; have HONE := Lib.hid hone
    have hx1i : (n : Int) < (p.kids.length : Int) := by omega
    obtain ⟨y0, y1, y2, y3, y4⟩ := cells5 hx3
    clear hp hq hpv hat ih hpk hpp hpa hkk hks hcs hflat hkid hB0 hx5 hx6 hput hin hnews hone hx3 hps
    unfold maxLen at hpc hkc
    go_enter Tryz.func46, Tryz.ntmps46
    go_upto_region 1 with fail
    rw [← hW]
    clear hW
    go_upto_region 4 with fail
    go_upto_region 5 with (at_builtin; refine wpList_append_own_at _ rfl _ _ 29 rfl W.heap.size 32 i0 _ 5 80 Tryz.underlying29 hi hz0 hz1 hz2 rfl (by decide) (.slice none 0 0) 0 [] rfl (World.ownsRow_nil _ _ _ _) ⟨kb, ko, none⟩ p.kids.length cap cs rfl hcl HNW.out HONE.out (by unfold maxLen; omega) (by omega) (Nat.le_refl _) ?_; intro v' w' hown' hgr hnil hat; have HOWN := Lib.hid hown'; have HGR := Lib.hid hgr; clear hown' hgr hnil hat)
    have hbw0 : Below W.heap.size W w' := below_of_grown (v := .slice none 0 0) HGR.out (Nat.le_refl _) (by intro g hg; cases hg)
    have hbw := HB0.out.trans (hbw0.mono HB0.out.size)
    have hown := HOWN.out
    rw [Nat.zero_add, List.nil_append] at hown
    obtain ⟨-, ⟨-, hno⟩ | ⟨rg, rcap, cur, rfl, hrg, hrh, hrn, hrm, hrs, hrt⟩⟩ := hown
    · omega
    have hrgs := lt_of_block hrh
    have x3 := bget' hbw0 X3.out
    have x5 := bget' hbw0 X5.out
    have x6 := bget' hbw0 X6.out
    have Y3 := Lib.hid x3; have Y5 := Lib.hid x5; have Y6 := Lib.hid x6; have HBW := Lib.hid hbw; have HRH := Lib.hid hrh; have HRT := Lib.hid hrt; have HRM := Lib.hid hrm
    have hsw := hbw0.size
    have HRG := Lib.hid (show w.heap.size + 3 ≤ rg by omega)
    have r0 := (hbw.cell (p := ⟨kb, _, none⟩) (Nat.lt_of_lt_of_le hkb hn0)).trans g0
    have r1 := (hbw.cell (p := ⟨kb, _, none⟩) (Nat.lt_of_lt_of_le hkb hn0)).trans g1
    have r2 := (hbw.cell (p := ⟨kb, _, none⟩) (Nat.lt_of_lt_of_le hkb hn0)).trans g2
    have r3 := (hbw.cell (p := ⟨kb, _, none⟩) (Nat.lt_of_lt_of_le hkb hn0)).trans g3
    have r4 := (hbw.cell (p := ⟨kb, _, none⟩) (Nat.lt_of_lt_of_le hkb hn0)).trans g4
    have HCALL := Lib.hid fun (V : World) (hb : Below w.heap.size w V) => HIH.out p.kids[n] _ _ (.slice (some ⟨pb, po + 1, none⟩) xs.length (pcap - 1)) V (by have := hb.size; omega) (TmAt.keepH (fun b h => hb.block b (by omega)) (Nat.le_refl _) _ _ HKID.out) (TmAt.keepH (fun b h => hb.block b (by omega)) (Nat.le_refl _) _ _ HQ.out) (by
      by_cases h0 : xs.length = 0
      · exact .inl ⟨h0, _, _, by rw [h0], by unfold maxLen; omega⟩
      · exact .inr ⟨pb, po + 1, _, rfl, by simp at hplc; omega, by unfold maxLen; omega, hpbn, IntsAt.keep hb _ _ _ (by omega) hps2⟩) (by simp at hl; omega) hlenk hat2
    clear y0 y1 y2 y3 y4 hq0 g0 g1 g2 g3 g4 hrh hrt hbw hbw0 hrm
    obtain ⟨y0, y1, y2, y3, y4⟩ := cells5 x3
    obtain ⟨z0, z1, z2, z3, z4⟩ := cells5 x5
    clear x3 x5 x6
    have hxl : (xs.length : Int) ≤ 1000000 := by simp at hl; omega
    have hpc2 : xs.length + 1 ≤ pcap := by simpa using hplc
    have HCALL1 := Lib.hid fun (V : World) (hb : Below w.heap.size w V) (h0 : xs.length = 0) => HIH.out p.kids[n] _ _ (.slice (some ⟨pb, po, none⟩) 0 0) V (by have := hb.size; omega) (TmAt.keepH (fun b h => hb.block b (by omega)) (Nat.le_refl _) _ _ HKID.out) (TmAt.keepH (fun b h => hb.block b (by omega)) (Nat.le_refl _) _ _ HQ.out) (.inl ⟨h0, _, _, rfl, by unfold maxLen; omega⟩) (by simp at hl; omega) hlenk hat2
    by_cases hp1 : pcap = 1
    · have hx0 : xs.length = 0 := by omega
      go_region_with (go_at_call 46; refine (HCALL1.out _ (HBW.out.trans ((below_drew w'.heap.size w').mono HBW.out.size)) hx0).mono ?_; rintro e w1 ⟨⟨v1, rfl, hv1⟩, hb1⟩; obtain ⟨va, vc, va', vc', rfl, -⟩ := hv1.at.parts; have hrh1 : w1.heap[rg]? = some (.cells cur 32 (0, 0)) := (by first | exact bget' hb1 HRH.out | exact bget' hb1 (show w'.drew.heap[rg]? = some _ from HRH.out)); have f0 := free_box hrh1; have s0 := row_some hrh1 (show n * 5 < cur.size by omega); have s1 := row_some hrh1 (show n * 5 + 1 < cur.size by omega); have s2 := row_some hrh1 (show n * 5 + 2 < cur.size by omega); have s3 := row_some hrh1 (show n * 5 + 3 < cur.size by omega); have s4 := row_some hrh1 (show n * 5 + 4 < cur.size by omega))
      all_goals (
        have hbw1 : Below w'.heap.size w' w1 := (below_drew _ w').trans hb1
        have hbf := HBW.out.trans (hbw1.mono HBW.out.size)
        have hs1 := hbw1.size
        have y3 := bget' hbw1 Y3.out
        have y6 := bget' hbw1 Y6.out
        have hpt := put5 w1 rg (n * 5) _ _ _ _ _ (.int .i64 (putM p.kids[n] xs q).op) (.int .i64 (putM p.kids[n] xs q).n) (.string (putM p.kids[n] xs q).text) (.slice va (putM p.kids[n] xs q).kids.length vc) (.slice va' (putM p.kids[n] xs q).pats.length vc') s0 s1 s2 s3 s4
        generalize (((((w1.setCell ⟨rg, n * 5, none⟩ (.int .i64 (putM p.kids[n] xs q).op)).setCell ⟨rg, n * 5 + 1, none⟩ (.int .i64 (putM p.kids[n] xs q).n)).setCell ⟨rg, n * 5 + 2, none⟩ (.string (putM p.kids[n] xs q).text)).setCell ⟨rg, n * 5 + 3, none⟩ (.slice va (putM p.kids[n] xs q).kids.length vc)).setCell ⟨rg, n * 5 + 4, none⟩ (.slice va' (putM p.kids[n] xs q).pats.length vc')) = W7 at *
        obtain ⟨k1, ⟨v0, v1, v2, v3, v4⟩, v5⟩ := hpt W7 rfl
        have hs7 := k1.size
        have x3 := (k1.block _ (by omega) (by omega)).trans y3
        have x6 := (k1.block _ (by omega) (by omega)).trans y6
        have V0 := Lib.hid v0; have V1 := Lib.hid v1; have V2 := Lib.hid v2; have V3 := Lib.hid v3; have V4 := Lib.hid v4; have V5 := Lib.hid v5; have K1 := Lib.hid k1; have HV1 := Lib.hid hv1; have HBF := Lib.hid hbf; have HRH1 := Lib.hid hrh1; have HBW1 := Lib.hid hbw1; have X3' := Lib.hid x3; have X6' := Lib.hid x6; have HB1 := Lib.hid hb1
        clear y0 y1 y2 y3 y4 y6 z0 z1 z2 z3 z4 r0 r1 r2 r3 r4 s0 s1 s2 s3 s4 v0 v1 v2 v3 v4 v5 k1 hv1 hb1 hpt hbf hbw1 f0 hrh1
        obtain ⟨y0, y1, y2, y3, y4⟩ := cells5 x3
        obtain ⟨z0, z1, z2, z3, z4⟩ := cells5 x6
        have f3 := free_box x3
        have f6 := free_box x6
        clear x3 x6
        go_wp2
        have hkp0 : Kept (fun k => k = w.heap.size ∨ k = w.heap.size + 2) W7 (W7.setCell ⟨w.heap.size, 3, none⟩ (.slice (some ⟨rg, 0, none⟩) p.kids.length rcap)) := .setCell _ (.inl rfl) _
        have hkp := hkp0.trans ((kept5 _ (w.heap.size + 2) (.int .i64 p.op) (.int .i64 p.n) (.string p.text) (.slice (some ⟨rg, 0, none⟩) p.kids.length rcap) (.slice a' p.pats.length cap')).mono (fun b h => .inr h))
        have hfar := putR_far hkp HRG.out hrgs hs1 K1.out HBF.out HRM.out hrn HRH1.out HRT.out HFL.out HP.out htx hn0 hx1 V0.out V1.out V2.out V3.out V4.out V5.out HV1.out
        have hbfin := HBF.out.trans ((K1.out.below (n₀ := w.heap.size) (by omega) (by rintro k rfl; omega)).trans (hkp.below (n₀ := w.heap.size) (by omega) (by rintro k (rfl | rfl) <;> omega)))
        refine bodyPost_ret (v := .agg #[.int .i64 p.op, .int .i64 p.n, .string p.text, .slice (some ⟨rg, 0, none⟩) p.kids.length rcap, .slice a' p.pats.length cap']) (by simp [results, Tryz.results46, go_sem, z0, z1, z2, z3, z4]) rfl ⟨⟨_, rfl, hfar⟩, hbfin⟩
      )
    · skip
      go_region_with (go_at_call 46; refine (HCALL.out _ (HBW.out.trans ((below_drew w'.heap.size w').mono HBW.out.size))).mono ?_; rintro e w1 ⟨⟨v1, rfl, hv1⟩, hb1⟩; obtain ⟨va, vc, va', vc', rfl, -⟩ := hv1.at.parts; have hrh1 : w1.heap[rg]? = some (.cells cur 32 (0, 0)) := (by first | exact bget' hb1 HRH.out | exact bget' hb1 (show w'.drew.heap[rg]? = some _ from HRH.out)); have f0 := free_box hrh1; have s0 := row_some hrh1 (show n * 5 < cur.size by omega); have s1 := row_some hrh1 (show n * 5 + 1 < cur.size by omega); have s2 := row_some hrh1 (show n * 5 + 2 < cur.size by omega); have s3 := row_some hrh1 (show n * 5 + 3 < cur.size by omega); have s4 := row_some hrh1 (show n * 5 + 4 < cur.size by omega))
      all_goals (
        have hbw1 : Below w'.heap.size w' w1 := (below_drew _ w').trans hb1
        have hbf := HBW.out.trans (hbw1.mono HBW.out.size)
        have hs1 := hbw1.size
        have y3 := bget' hbw1 Y3.out
        have y6 := bget' hbw1 Y6.out
        have hpt := put5 w1 rg (n * 5) _ _ _ _ _ (.int .i64 (putM p.kids[n] xs q).op) (.int .i64 (putM p.kids[n] xs q).n) (.string (putM p.kids[n] xs q).text) (.slice va (putM p.kids[n] xs q).kids.length vc) (.slice va' (putM p.kids[n] xs q).pats.length vc') s0 s1 s2 s3 s4
        generalize (((((w1.setCell ⟨rg, n * 5, none⟩ (.int .i64 (putM p.kids[n] xs q).op)).setCell ⟨rg, n * 5 + 1, none⟩ (.int .i64 (putM p.kids[n] xs q).n)).setCell ⟨rg, n * 5 + 2, none⟩ (.string (putM p.kids[n] xs q).text)).setCell ⟨rg, n * 5 + 3, none⟩ (.slice va (putM p.kids[n] xs q).kids.length vc)).setCell ⟨rg, n * 5 + 4, none⟩ (.slice va' (putM p.kids[n] xs q).pats.length vc')) = W7 at *
        obtain ⟨k1, ⟨v0, v1, v2, v3, v4⟩, v5⟩ := hpt W7 rfl
        have hs7 := k1.size
        have x3 := (k1.block _ (by omega) (by omega)).trans y3
        have x6 := (k1.block _ (by omega) (by omega)).trans y6
        have V0 := Lib.hid v0; have V1 := Lib.hid v1; have V2 := Lib.hid v2; have V3 := Lib.hid v3; have V4 := Lib.hid v4; have V5 := Lib.hid v5; have K1 := Lib.hid k1; have HV1 := Lib.hid hv1; have HBF := Lib.hid hbf; have HRH1 := Lib.hid hrh1; have HBW1 := Lib.hid hbw1; have X3' := Lib.hid x3; have X6' := Lib.hid x6; have HB1 := Lib.hid hb1
        clear y0 y1 y2 y3 y4 y6 z0 z1 z2 z3 z4 r0 r1 r2 r3 r4 s0 s1 s2 s3 s4 v0 v1 v2 v3 v4 v5 k1 hv1 hb1 hpt hbf hbw1 f0 hrh1
        obtain ⟨y0, y1, y2, y3, y4⟩ := cells5 x3
        obtain ⟨z0, z1, z2, z3, z4⟩ := cells5 x6
        have f3 := free_box x3
        have f6 := free_box x6
        clear x3 x6
        go_wp2
        have hkp0 : Kept (fun k => k = w.heap.size ∨ k = w.heap.size + 2) W7 (W7.setCell ⟨w.heap.size, 3, none⟩ (.slice (some ⟨rg, 0, none⟩) p.kids.length rcap)) := .setCell _ (.inl rfl) _
        have hkp := hkp0.trans ((kept5 _ (w.heap.size + 2) (.int .i64 p.op) (.int .i64 p.n) (.string p.text) (.slice (some ⟨rg, 0, none⟩) p.kids.length rcap) (.slice a' p.pats.length cap')).mono (fun b h => .inr h))
        have hfar := putR_far hkp HRG.out hrgs hs1 K1.out HBF.out HRM.out hrn HRH1.out HRT.out HFL.out HP.out htx hn0 hx1 V0.out V1.out V2.out V3.out V4.out V5.out HV1.out
        have hbfin := HBF.out.trans ((K1.out.below (n₀ := w.heap.size) (by omega) (by rintro k rfl; omega)).trans (hkp.below (n₀ := w.heap.size) (by omega) (by rintro k (rfl | rfl) <;> omega)))
        refine bodyPost_ret (v := .agg #[.int .i64 p.op, .int .i64 p.n, .string p.text, .slice (some ⟨rg, 0, none⟩) p.kids.length rcap, .slice a' p.pats.length cap']) (by simp [results, Tryz.results46, go_sem, z0, z1, z2, z3, z4]) rfl ⟨⟨_, rfl, hfar⟩, hbfin⟩
      )

end Go.Proofs.YtjpahjfjpkbcnaaGreat
