/- Contracts of the program's functions. -/
import Derived.Test.YtjpahjfjpkbcnaaGreatH02
import Derived.Test.YtjpahjfjpkbcnaaGreatG10

/- TermParts: its walk. -/
namespace Go.Proofs.YtjpahjfjpkbcnaaGreat
open Go.Proofs Go.RowKit

mutual
theorem eqP_refl : ∀ p : Pt, eqP p p = true
  | .mk _ _ _ ps => by unfold eqP; rw [eqPs_refl ps]; simp
theorem eqPs_refl : ∀ ps : List Pt, eqPs ps ps = true
  | [] => by unfold eqPs; rfl
  | p :: ps => by unfold eqPs; rw [eqP_refl p, eqPs_refl ps]; rfl
end
mutual
theorem eqM_refl : ∀ p : Tm, eqM p p = true
  | .mk _ _ _ ks ps => by unfold eqM; rw [eqMs_refl ks, eqPs_refl ps]; simp
theorem eqMs_refl : ∀ ps : List Tm, eqMs ps ps = true
  | [] => by unfold eqMs; rfl
  | p :: ps => by unfold eqMs; rw [eqM_refl p, eqMs_refl ps]; rfl
end
theorem eqM_zero : eqM zeroM zeroM = true := eqM_refl _

theorem AtEnd.no {p : Tm} {path : List Int} {W W' : World} {e : Ending} (h : AtEnd p path W e W') (hn : termB p = false ∨ atM p path = none) : e = .returned (.tuple #[zeroV, .int .i64 2]) := by
  unfold AtEnd at h
  split at h
  · rcases hn with hn | hn
    · simp_all
    · rw [hn] at h; exact h
  · exact h
theorem AtEnd.yes {p q : Tm} {path : List Int} {W W' : World} {e : Ending} (h : AtEnd p path W e W') (hb : termB p = true) (ha : atM p path = some q) : ∃ v, e = .returned (.tuple #[v, .int .i64 0]) ∧ TmNew W W' q v := by
  unfold AtEnd at h
  rw [if_pos hb, ha] at h
  exact h
theorem PutEnd.no {p q : Tm} {path : List Int} {W' : World} {e : Ending} (h : PutEnd p path q e W') (hn : (termB p && (atM p path).isSome && termB q) = false) : e = .returned (.tuple #[zeroV, .int .i64 2]) := by
  unfold PutEnd at h
  rw [hn, if_neg (by simp)] at h
  exact h
theorem PutEnd.long {p q : Tm} {path : List Int} {W' : World} {e : Ending} (h : PutEnd p path q e W') (hn : (termB p && (atM p path).isSome && termB q) = true) (hb : termB (putM p path q) = false) : e = .returned (.tuple #[zeroV, .int .i64 3]) := by
  unfold PutEnd at h
  rw [if_pos hn, hb, if_neg (by simp)] at h
  exact h
theorem PutEnd.yes {p q : Tm} {path : List Int} {W' : World} {e : Ending} (h : PutEnd p path q e W') (hn : (termB p && (atM p path).isSome && termB q) = true) (hb : termB (putM p path q) = true) : ∃ v, e = .returned (.tuple #[v, .int .i64 0]) ∧ TmAt W'.heap.size W' (putM p path q) v := by
  unfold PutEnd at h
  rw [if_pos hn, if_pos hb] at h
  exact h
theorem RefAtEnd.no {p : Tm} {path : List Int} {n₀ : Nat} {W' : World} {e : Ending} (h : RefAtEnd p path n₀ e W') (hn : atM p path = none) : e = .returned (.tuple #[zeroV, .bool false]) := by
  unfold RefAtEnd at h
  rw [hn] at h
  exact h
theorem RefAtEnd.yes {p q : Tm} {path : List Int} {n₀ : Nat} {W' : World} {e : Ending} (h : RefAtEnd p path n₀ e W') (hn : atM p path = some q) : ∃ v, e = .returned (.tuple #[v, .bool true]) ∧ TmAt n₀ W' q v := by
  unfold RefAtEnd at h
  rw [hn] at h
  exact h
abbrev Ends (f : FuncId) (v : Value) (w : World) (r : Value) : Prop := Calls Tryz.prog f #[v] w fun e w' => e = .returned r ∧ Below w.heap.size w w'
theorem C37 {t : Tm} {v : Value} (hb : termB t = true) (w : World) (h : Ends 37 v w (if termB t then .tuple #[.int .i64 (nodesM t), .int .i64 0] else .tuple #[.int .i64 0, .int .i64 2])) : Ends 37 v w (.tuple #[.int .i64 (ndM t), .int .i64 0]) := by
  rwa [if_pos hb, nodesM_eq] at h
theorem C37n {t : Tm} {v : Value} (hb : termB t = false) (w : World) (h : Ends 37 v w (if termB t then .tuple #[.int .i64 (nodesM t), .int .i64 0] else .tuple #[.int .i64 0, .int .i64 2])) : Ends 37 v w (.tuple #[.int .i64 0, .int .i64 2]) := by
  rwa [if_neg (by simp [hb])] at h
theorem C38 {t : Tm} {v : Value} (hb : termB t = true) (w : World) (h : Ends 38 v w (if termB t then .tuple #[.int .i64 (depthM t), .int .i64 0] else .tuple #[.int .i64 0, .int .i64 2])) : Ends 38 v w (.tuple #[.int .i64 (dpM t), .int .i64 0]) := by
  rwa [if_pos hb, depthM_eq] at h
theorem C38n {t : Tm} {v : Value} (hb : termB t = false) (w : World) (h : Ends 38 v w (if termB t then .tuple #[.int .i64 (depthM t), .int .i64 0] else .tuple #[.int .i64 0, .int .i64 2])) : Ends 38 v w (.tuple #[.int .i64 0, .int .i64 2]) := by
  rwa [if_neg (by simp [hb])] at h
theorem C30 (t : Tm) {v : Value} (w : World) (h : TmAt w.heap.size w t v) (hok : okM t) : Ends 30 v w (.bool (termB t)) := by
  have := Term_any t v w h hok
  rwa [refTermB_eq] at this
theorem two_boxes (w : World) (x y : Array Value) (t : TypeId) : ∃ W, W = (w.alloc (.cells x t)).alloc (.cells y t) ∧ Below w.heap.size w W ∧ W.heap.size = w.heap.size + 2 ∧ W.heap[w.heap.size]? = some (.cells x t (0, 0)) ∧ W.heap[w.heap.size + 1]? = some (.cells y t (0, 0)) := by
  refine ⟨_, rfl, ((Below.refl w.heap.size w).alloc (Nat.le_refl _) _).alloc (by simp) _, by simp, ?_, ?_⟩
  · exact (Below.heap_alloc _ _ _ (by simp)).trans (heap_alloc_new w _)
  · have := heap_alloc_new (w.alloc (.cells x t)) (.cells y t)
    rw [World.size_alloc] at this
    exact this
theorem ndM_bound {t : Tm} (h : SmallTermB t = true) : ndM t ≤ 1000000 := by
  have h1 := (SmallTerm_ok h).2.2
  have e := nodesM_eq t
  unfold nodesM at e
  omega
mutual
theorem dpM_le : ∀ t : Tm, dpM t ≤ ndM t
  | .mk _ _ _ ks _ => by
    have := dpsM_le ks
    unfold dpM ndM
    omega
theorem dpsM_le : ∀ ts : List Tm, dpsM ts ≤ ndsM ts
  | [] => by unfold dpsM; exact Nat.zero_le _
  | t :: ts => by
    have := dpM_le t
    have := dpsM_le ts
    rw [dpsM_cons, ndsM_cons]
    omega
end
theorem dpM_bound {t : Tm} (h : SmallTermB t = true) : dpM t ≤ 1000000 := by
  have := dpM_le t
  have := ndM_bound h
  omega

set_option maxHeartbeats 16000000 in
set_option maxRecDepth 100000 in
theorem parts_any (t : Tm) (path : List Int) (q : Tm) (v pv qv : Value) (w : World) (ht : TmAt w.heap.size w t v) (hpv : SlV w.heap.size pv path.length fun b o => IntsAt w path b o) (hq : TmAt w.heap.size w q qv) :
    Calls Tryz.prog 6 #[v, pv, qv] w fun e w' => e = .returned (.bool true) ∧ Below w.heap.size w w' := by
  obtain ⟨a, cap, a', cap', rfl, -⟩ := ht.parts
  obtain ⟨b, bcap, b', bcap', rfl, -⟩ := hq.parts
  obtain ⟨pa, pcap, hpe, hpc, hplc, -⟩ := hpv.split
  obtain ⟨W, hW, hb, hs, hx3, hx5⟩ := two_boxes w #[.int .i64 t.op, .int .i64 t.n, .string t.text, .slice a t.kids.length cap, .slice a' t.pats.length cap'] #[.int .i64 q.op, .int .i64 q.n, .string q.text, .slice b q.kids.length bcap, .slice b' q.pats.length bcap'] 32
  have HT := Lib.hid ht; have HQ := Lib.hid hq; have HP := Lib.hid hpv
  replace HT := Lib.hid (TmAt.keep hb hb.size _ _ HT.out)
  replace HQ := Lib.hid (TmAt.keep hb hb.size _ _ HQ.out)
  replace HP := Lib.hid (HP.out.mono hb.size fun b o hlt hr => IntsAt.keep hb _ b o hlt hr)
  have X3 := Lib.hid hx3; have X5 := Lib.hid hx5; have HV := Lib.hid hb
  subst hpe
  unfold maxLen at hpc
  clear ht hq hpv hb hx3 hx5 hs
  go_enter Tryz.func6, Tryz.ntmps6
  go_upto_region 1 with fail
  rw [← hW]
  clear hW
  obtain ⟨c00, c01, c02, c03, c04⟩ := cells5 X3.out
  go_wp2_with fail
  refine (SmallTerm_any t _ W HT.out).mono ?_
  rintro e w1 ⟨rfl, hb⟩
  replace HV := Lib.hid (HV.out.trans (hb.mono HV.out.size))
  replace X3 := Lib.hid (bget' hb X3.out)
  replace X5 := Lib.hid (bget' hb X5.out)
  replace HT := Lib.hid (TmAt.keep hb hb.size _ _ HT.out)
  replace HQ := Lib.hid (TmAt.keep hb hb.size _ _ HQ.out)
  replace HP := Lib.hid (HP.out.mono hb.size fun b o hlt hr => IntsAt.keep hb _ b o hlt hr)
  clear hb
  clear c00 c01 c02 c03 c04
  cases hs1 : SmallTermB t with
  | false =>
    go_wp2_with fail
    refine (known_any _).mono ?_
    rintro e wk ⟨rfl, hb⟩
    replace HV := Lib.hid (HV.out.trans (hb.mono HV.out.size))
    clear hb
    go_wp2
    go_ret
    exact ⟨rfl, HV.out⟩
  | true =>
  obtain ⟨c00, c01, c02, c03, c04⟩ := cells5 X5.out
  go_wp2_with fail
  refine (SmallTerm_any q _ w1 HQ.out).mono ?_
  rintro e w2 ⟨rfl, hb⟩
  replace HV := Lib.hid (HV.out.trans (hb.mono HV.out.size))
  replace X3 := Lib.hid (bget' hb X3.out)
  replace X5 := Lib.hid (bget' hb X5.out)
  replace HT := Lib.hid (TmAt.keep hb hb.size _ _ HT.out)
  replace HQ := Lib.hid (TmAt.keep hb hb.size _ _ HQ.out)
  replace HP := Lib.hid (HP.out.mono hb.size fun b o hlt hr => IntsAt.keep hb _ b o hlt hr)
  clear hb
  clear c00 c01 c02 c03 c04
  cases hs2 : SmallTermB q with
  | false =>
    go_wp2_with fail
    refine (known_any _).mono ?_
    rintro e wk ⟨rfl, hb⟩
    replace HV := Lib.hid (HV.out.trans (hb.mono HV.out.size))
    clear hb
    go_wp2
    go_ret
    exact ⟨rfl, HV.out⟩
  | true =>
  by_cases h20 : path.length ≤ 20
  case neg =>
    have h20' : (20 : Int) < (path.length : Int) := by omega
    go_wp2_with fail
    refine (known_any _).mono ?_
    rintro e wk ⟨rfl, hb⟩
    replace HV := Lib.hid (HV.out.trans (hb.mono HV.out.size))
    clear hb
    go_wp2
    go_ret
    exact ⟨rfl, HV.out⟩
  have h20' : ¬ (20 : Int) < (path.length : Int) := by omega
  have hl : path.length ≤ 1000000 := by omega
  have HF := SmallTerm_fit hs1; have HG := SmallTerm_fit hs2; have HND := ndM_bound hs1; have HDP := dpM_bound hs1
  clear hs1 hs2
  cases htb : termB t with
  | false =>
    have HTB := Lib.hid htb
    clear htb
    obtain ⟨c00, c01, c02, c03, c04⟩ := cells5 X3.out
    go_wp2_with fail
    refine (C37n HTB.out _ (Nodes_any t _ w2 HT.out HF.h HF.ok)).mono ?_
    rintro e w3 ⟨rfl, hb⟩
    replace HV := Lib.hid (HV.out.trans (hb.mono HV.out.size))
    replace X3 := Lib.hid (bget' hb X3.out)
    replace X5 := Lib.hid (bget' hb X5.out)
    replace HT := Lib.hid (TmAt.keep hb hb.size _ _ HT.out)
    replace HQ := Lib.hid (TmAt.keep hb hb.size _ _ HQ.out)
    replace HP := Lib.hid (HP.out.mono hb.size fun b o hlt hr => IntsAt.keep hb _ b o hlt hr)
    clear hb
    clear c00 c01 c02 c03 c04
    obtain ⟨c00, c01, c02, c03, c04⟩ := cells5 X3.out
    go_wp2_with fail
    refine (C38n HTB.out _ (Depth_any t _ w3 HT.out HF.h HF.ok)).mono ?_
    rintro e w4 ⟨rfl, hb⟩
    replace HV := Lib.hid (HV.out.trans (hb.mono HV.out.size))
    replace X3 := Lib.hid (bget' hb X3.out)
    replace X5 := Lib.hid (bget' hb X5.out)
    replace HT := Lib.hid (TmAt.keep hb hb.size _ _ HT.out)
    replace HQ := Lib.hid (TmAt.keep hb hb.size _ _ HQ.out)
    replace HP := Lib.hid (HP.out.mono hb.size fun b o hlt hr => IntsAt.keep hb _ b o hlt hr)
    clear hb
    clear c00 c01 c02 c03 c04
    obtain ⟨c00, c01, c02, c03, c04⟩ := cells5 X3.out
    go_wp2_with fail
    refine (At_any t _ (.slice pa path.length pcap) path w4 HT.out HP.out hl HF).mono ?_
    rintro e w5 ⟨he, hb⟩
    replace HV := Lib.hid (HV.out.trans (hb.mono HV.out.size))
    replace X3 := Lib.hid (bget' hb X3.out)
    replace X5 := Lib.hid (bget' hb X5.out)
    replace HT := Lib.hid (TmAt.keep hb hb.size _ _ HT.out)
    replace HQ := Lib.hid (TmAt.keep hb hb.size _ _ HQ.out)
    replace HP := Lib.hid (HP.out.mono hb.size fun b o hlt hr => IntsAt.keep hb _ b o hlt hr)
    obtain rfl := AtEnd.no he (.inl HTB.out)
    unfold zeroV
    clear hb
    clear c00 c01 c02 c03 c04
    go_upto_region 6 with fail
    have hb := (Below.refl _ w5).alloc (Nat.le_refl _) (.cells #[.int .i64 0, .int .i64 0, .string ⟨#[]⟩, .slice none 0 0, .slice none 0 0] 32)
    have X11n := Lib.hid (heap_alloc_new w5 (.cells #[.int .i64 0, .int .i64 0, .string ⟨#[]⟩, .slice none 0 0, .slice none 0 0] 32))
    replace HV := Lib.hid (HV.out.trans (hb.mono HV.out.size))
    replace X3 := Lib.hid (bget' hb X3.out)
    replace X5 := Lib.hid (bget' hb X5.out)
    replace HT := Lib.hid (TmAt.keep hb hb.size _ _ HT.out)
    replace HQ := Lib.hid (TmAt.keep hb hb.size _ _ HQ.out)
    replace HP := Lib.hid (HP.out.mono hb.size fun b o hlt hr => IntsAt.keep hb _ b o hlt hr)
    clear hb
    generalize (w5.alloc (.cells #[.int .i64 0, .int .i64 0, .string ⟨#[]⟩, .slice none 0 0, .slice none 0 0] 32)) = w6 at *
    have X11 := X11n
    clear X11n
    obtain ⟨c00, c01, c02, c03, c04⟩ := cells5 X3.out
    obtain ⟨c10, c11, c12, c13, c14⟩ := cells5 X5.out
    go_wp2_with fail
    refine (Put_any t q _ _ (.slice pa path.length pcap) path w6 HT.out HQ.out HP.out hl HF HG).mono ?_
    rintro e w7 ⟨he, hb⟩
    replace HV := Lib.hid (HV.out.trans (hb.mono HV.out.size))
    replace X3 := Lib.hid (bget' hb X3.out)
    replace X5 := Lib.hid (bget' hb X5.out)
    replace X11 := Lib.hid (bget' hb X11.out)
    replace HT := Lib.hid (TmAt.keep hb hb.size _ _ HT.out)
    replace HQ := Lib.hid (TmAt.keep hb hb.size _ _ HQ.out)
    replace HP := Lib.hid (HP.out.mono hb.size fun b o hlt hr => IntsAt.keep hb _ b o hlt hr)
    obtain rfl := PutEnd.no he (by rw [HTB.out]; rfl)
    unfold zeroV
    clear hb
    clear c00 c01 c02 c03 c04 c10 c11 c12 c13 c14
    go_upto_region 7 with fail
    have hb := (Below.refl _ w7).alloc (Nat.le_refl _) (.cells #[.int .i64 0, .int .i64 0, .string ⟨#[]⟩, .slice none 0 0, .slice none 0 0] 32)
    have X13n := Lib.hid (heap_alloc_new w7 (.cells #[.int .i64 0, .int .i64 0, .string ⟨#[]⟩, .slice none 0 0, .slice none 0 0] 32))
    replace HV := Lib.hid (HV.out.trans (hb.mono HV.out.size))
    replace X3 := Lib.hid (bget' hb X3.out)
    replace X5 := Lib.hid (bget' hb X5.out)
    replace X11 := Lib.hid (bget' hb X11.out)
    replace HT := Lib.hid (TmAt.keep hb hb.size _ _ HT.out)
    replace HQ := Lib.hid (TmAt.keep hb hb.size _ _ HQ.out)
    replace HP := Lib.hid (HP.out.mono hb.size fun b o hlt hr => IntsAt.keep hb _ b o hlt hr)
    clear hb
    generalize (w7.alloc (.cells #[.int .i64 0, .int .i64 0, .string ⟨#[]⟩, .slice none 0 0, .slice none 0 0] 32)) = w8 at *
    have X13 := X13n
    clear X13n
    obtain ⟨c00, c01, c02, c03, c04⟩ := cells5 X3.out
    go_wp2_with fail
    refine (C30 t w8 HT.out HF.ok).mono ?_
    rintro e w9 ⟨rfl, hb⟩
    replace HV := Lib.hid (HV.out.trans (hb.mono HV.out.size))
    replace X3 := Lib.hid (bget' hb X3.out)
    replace X5 := Lib.hid (bget' hb X5.out)
    replace X11 := Lib.hid (bget' hb X11.out)
    replace X13 := Lib.hid (bget' hb X13.out)
    replace HT := Lib.hid (TmAt.keep hb hb.size _ _ HT.out)
    replace HQ := Lib.hid (TmAt.keep hb hb.size _ _ HQ.out)
    replace HP := Lib.hid (HP.out.mono hb.size fun b o hlt hr => IntsAt.keep hb _ b o hlt hr)
    rw [HTB.out]
    clear hb
    clear c00 c01 c02 c03 c04
    obtain ⟨c00, c01, c02, c03, c04⟩ := cells5 X11.out
    go_wp2_with fail
    refine (none_any zeroM _ w9 (zeroM_at _ _)).mono ?_
    rintro e w10 ⟨rfl, hb⟩
    replace HV := Lib.hid (HV.out.trans (hb.mono HV.out.size))
    replace X3 := Lib.hid (bget' hb X3.out)
    replace X5 := Lib.hid (bget' hb X5.out)
    replace X11 := Lib.hid (bget' hb X11.out)
    replace X13 := Lib.hid (bget' hb X13.out)
    replace HT := Lib.hid (TmAt.keep hb hb.size _ _ HT.out)
    replace HQ := Lib.hid (TmAt.keep hb hb.size _ _ HQ.out)
    replace HP := Lib.hid (HP.out.mono hb.size fun b o hlt hr => IntsAt.keep hb _ b o hlt hr)
    rw [eqM_zero]
    clear hb
    clear c00 c01 c02 c03 c04
    obtain ⟨c00, c01, c02, c03, c04⟩ := cells5 X13.out
    go_wp2_with fail
    refine (none_any zeroM _ w10 (zeroM_at _ _)).mono ?_
    rintro e w11 ⟨rfl, hb⟩
    replace HV := Lib.hid (HV.out.trans (hb.mono HV.out.size))
    replace X3 := Lib.hid (bget' hb X3.out)
    replace X5 := Lib.hid (bget' hb X5.out)
    replace X11 := Lib.hid (bget' hb X11.out)
    replace X13 := Lib.hid (bget' hb X13.out)
    replace HT := Lib.hid (TmAt.keep hb hb.size _ _ HT.out)
    replace HQ := Lib.hid (TmAt.keep hb hb.size _ _ HQ.out)
    replace HP := Lib.hid (HP.out.mono hb.size fun b o hlt hr => IntsAt.keep hb _ b o hlt hr)
    rw [eqM_zero]
    clear hb
    clear c00 c01 c02 c03 c04
    go_wp2_with fail
    refine (known_any _).mono ?_
    rintro e wk ⟨rfl, hb⟩
    replace HV := Lib.hid (HV.out.trans (hb.mono HV.out.size))
    clear hb
    go_wp2
    go_ret
    exact ⟨rfl, HV.out⟩
  | true =>
  have HTB := Lib.hid htb
  clear htb
  cases hat : atM t path with
  | none =>
    have HAT := Lib.hid hat
    clear hat
    obtain ⟨c00, c01, c02, c03, c04⟩ := cells5 X3.out
    go_wp2_with fail
    refine (C37 HTB.out _ (Nodes_any t _ w2 HT.out HF.h HF.ok)).mono ?_
    rintro e w3 ⟨rfl, hb⟩
    replace HV := Lib.hid (HV.out.trans (hb.mono HV.out.size))
    replace X3 := Lib.hid (bget' hb X3.out)
    replace X5 := Lib.hid (bget' hb X5.out)
    replace HT := Lib.hid (TmAt.keep hb hb.size _ _ HT.out)
    replace HQ := Lib.hid (TmAt.keep hb hb.size _ _ HQ.out)
    replace HP := Lib.hid (HP.out.mono hb.size fun b o hlt hr => IntsAt.keep hb _ b o hlt hr)
    clear hb
    clear c00 c01 c02 c03 c04
    obtain ⟨c00, c01, c02, c03, c04⟩ := cells5 X3.out
    go_wp2_with fail
    refine (C38 HTB.out _ (Depth_any t _ w3 HT.out HF.h HF.ok)).mono ?_
    rintro e w4 ⟨rfl, hb⟩
    replace HV := Lib.hid (HV.out.trans (hb.mono HV.out.size))
    replace X3 := Lib.hid (bget' hb X3.out)
    replace X5 := Lib.hid (bget' hb X5.out)
    replace HT := Lib.hid (TmAt.keep hb hb.size _ _ HT.out)
    replace HQ := Lib.hid (TmAt.keep hb hb.size _ _ HQ.out)
    replace HP := Lib.hid (HP.out.mono hb.size fun b o hlt hr => IntsAt.keep hb _ b o hlt hr)
    clear hb
    clear c00 c01 c02 c03 c04
    obtain ⟨c00, c01, c02, c03, c04⟩ := cells5 X3.out
    go_wp2_with fail
    refine (At_any t _ (.slice pa path.length pcap) path w4 HT.out HP.out hl HF).mono ?_
    rintro e w5 ⟨he, hb⟩
    replace HV := Lib.hid (HV.out.trans (hb.mono HV.out.size))
    replace X3 := Lib.hid (bget' hb X3.out)
    replace X5 := Lib.hid (bget' hb X5.out)
    replace HT := Lib.hid (TmAt.keep hb hb.size _ _ HT.out)
    replace HQ := Lib.hid (TmAt.keep hb hb.size _ _ HQ.out)
    replace HP := Lib.hid (HP.out.mono hb.size fun b o hlt hr => IntsAt.keep hb _ b o hlt hr)
    obtain rfl := AtEnd.no he (.inr HAT.out)
    unfold zeroV
    clear hb
    clear c00 c01 c02 c03 c04
    go_upto_region 6 with fail
    have hb := (Below.refl _ w5).alloc (Nat.le_refl _) (.cells #[.int .i64 0, .int .i64 0, .string ⟨#[]⟩, .slice none 0 0, .slice none 0 0] 32)
    have X11n := Lib.hid (heap_alloc_new w5 (.cells #[.int .i64 0, .int .i64 0, .string ⟨#[]⟩, .slice none 0 0, .slice none 0 0] 32))
    replace HV := Lib.hid (HV.out.trans (hb.mono HV.out.size))
    replace X3 := Lib.hid (bget' hb X3.out)
    replace X5 := Lib.hid (bget' hb X5.out)
    replace HT := Lib.hid (TmAt.keep hb hb.size _ _ HT.out)
    replace HQ := Lib.hid (TmAt.keep hb hb.size _ _ HQ.out)
    replace HP := Lib.hid (HP.out.mono hb.size fun b o hlt hr => IntsAt.keep hb _ b o hlt hr)
    clear hb
    generalize (w5.alloc (.cells #[.int .i64 0, .int .i64 0, .string ⟨#[]⟩, .slice none 0 0, .slice none 0 0] 32)) = w6 at *
    have X11 := X11n
    clear X11n
    obtain ⟨c00, c01, c02, c03, c04⟩ := cells5 X3.out
    obtain ⟨c10, c11, c12, c13, c14⟩ := cells5 X5.out
    go_wp2_with fail
    refine (Put_any t q _ _ (.slice pa path.length pcap) path w6 HT.out HQ.out HP.out hl HF HG).mono ?_
    rintro e w7 ⟨he, hb⟩
    replace HV := Lib.hid (HV.out.trans (hb.mono HV.out.size))
    replace X3 := Lib.hid (bget' hb X3.out)
    replace X5 := Lib.hid (bget' hb X5.out)
    replace X11 := Lib.hid (bget' hb X11.out)
    replace HT := Lib.hid (TmAt.keep hb hb.size _ _ HT.out)
    replace HQ := Lib.hid (TmAt.keep hb hb.size _ _ HQ.out)
    replace HP := Lib.hid (HP.out.mono hb.size fun b o hlt hr => IntsAt.keep hb _ b o hlt hr)
    obtain rfl := PutEnd.no he (by rw [HAT.out]; simp)
    unfold zeroV
    clear hb
    clear c00 c01 c02 c03 c04 c10 c11 c12 c13 c14
    go_upto_region 7 with fail
    have hb := (Below.refl _ w7).alloc (Nat.le_refl _) (.cells #[.int .i64 0, .int .i64 0, .string ⟨#[]⟩, .slice none 0 0, .slice none 0 0] 32)
    have X13n := Lib.hid (heap_alloc_new w7 (.cells #[.int .i64 0, .int .i64 0, .string ⟨#[]⟩, .slice none 0 0, .slice none 0 0] 32))
    replace HV := Lib.hid (HV.out.trans (hb.mono HV.out.size))
    replace X3 := Lib.hid (bget' hb X3.out)
    replace X5 := Lib.hid (bget' hb X5.out)
    replace X11 := Lib.hid (bget' hb X11.out)
    replace HT := Lib.hid (TmAt.keep hb hb.size _ _ HT.out)
    replace HQ := Lib.hid (TmAt.keep hb hb.size _ _ HQ.out)
    replace HP := Lib.hid (HP.out.mono hb.size fun b o hlt hr => IntsAt.keep hb _ b o hlt hr)
    clear hb
    generalize (w7.alloc (.cells #[.int .i64 0, .int .i64 0, .string ⟨#[]⟩, .slice none 0 0, .slice none 0 0] 32)) = w8 at *
    have X13 := X13n
    clear X13n
    obtain ⟨c00, c01, c02, c03, c04⟩ := cells5 X3.out
    go_wp2_with fail
    refine (C30 t w8 HT.out HF.ok).mono ?_
    rintro e w9 ⟨rfl, hb⟩
    replace HV := Lib.hid (HV.out.trans (hb.mono HV.out.size))
    replace X3 := Lib.hid (bget' hb X3.out)
    replace X5 := Lib.hid (bget' hb X5.out)
    replace X11 := Lib.hid (bget' hb X11.out)
    replace X13 := Lib.hid (bget' hb X13.out)
    replace HT := Lib.hid (TmAt.keep hb hb.size _ _ HT.out)
    replace HQ := Lib.hid (TmAt.keep hb hb.size _ _ HQ.out)
    replace HP := Lib.hid (HP.out.mono hb.size fun b o hlt hr => IntsAt.keep hb _ b o hlt hr)
    rw [HTB.out]
    clear hb
    clear c00 c01 c02 c03 c04
    obtain ⟨c00, c01, c02, c03, c04⟩ := cells5 X3.out
    go_wp2_with fail
    refine (refNodes_any t _ w9 HT.out HND).mono ?_
    rintro e w10 ⟨rfl, hb⟩
    replace HV := Lib.hid (HV.out.trans (hb.mono HV.out.size))
    replace X3 := Lib.hid (bget' hb X3.out)
    replace X5 := Lib.hid (bget' hb X5.out)
    replace X11 := Lib.hid (bget' hb X11.out)
    replace X13 := Lib.hid (bget' hb X13.out)
    replace HT := Lib.hid (TmAt.keep hb hb.size _ _ HT.out)
    replace HQ := Lib.hid (TmAt.keep hb hb.size _ _ HQ.out)
    replace HP := Lib.hid (HP.out.mono hb.size fun b o hlt hr => IntsAt.keep hb _ b o hlt hr)
    clear hb
    clear c00 c01 c02 c03 c04
    obtain ⟨c00, c01, c02, c03, c04⟩ := cells5 X3.out
    go_wp2_with fail
    refine (refDepth_any t _ w10 HT.out HDP).mono ?_
    rintro e w11 ⟨rfl, hb⟩
    replace HV := Lib.hid (HV.out.trans (hb.mono HV.out.size))
    replace X3 := Lib.hid (bget' hb X3.out)
    replace X5 := Lib.hid (bget' hb X5.out)
    replace X11 := Lib.hid (bget' hb X11.out)
    replace X13 := Lib.hid (bget' hb X13.out)
    replace HT := Lib.hid (TmAt.keep hb hb.size _ _ HT.out)
    replace HQ := Lib.hid (TmAt.keep hb hb.size _ _ HQ.out)
    replace HP := Lib.hid (HP.out.mono hb.size fun b o hlt hr => IntsAt.keep hb _ b o hlt hr)
    clear hb
    clear c00 c01 c02 c03 c04
    obtain ⟨c00, c01, c02, c03, c04⟩ := cells5 X3.out
    go_wp2_with fail
    refine (refAt_any t _ (.slice pa path.length pcap) path w11 HT.out HP.out hl).mono ?_
    rintro e w12 ⟨he, hb⟩
    replace HV := Lib.hid (HV.out.trans (hb.mono HV.out.size))
    replace X3 := Lib.hid (bget' hb X3.out)
    replace X5 := Lib.hid (bget' hb X5.out)
    replace X11 := Lib.hid (bget' hb X11.out)
    replace X13 := Lib.hid (bget' hb X13.out)
    replace HT := Lib.hid (TmAt.keep hb hb.size _ _ HT.out)
    replace HQ := Lib.hid (TmAt.keep hb hb.size _ _ HQ.out)
    replace HP := Lib.hid (HP.out.mono hb.size fun b o hlt hr => IntsAt.keep hb _ b o hlt hr)
    obtain rfl := RefAtEnd.no he HAT.out
    unfold zeroV
    clear hb
    clear c00 c01 c02 c03 c04
    go_upto_region 12 with fail
    have hb := (Below.refl _ w12).alloc (Nat.le_refl _) (.cells #[.int .i64 0, .int .i64 0, .string ⟨#[]⟩, .slice none 0 0, .slice none 0 0] 32)
    have X15n := Lib.hid (heap_alloc_new w12 (.cells #[.int .i64 0, .int .i64 0, .string ⟨#[]⟩, .slice none 0 0, .slice none 0 0] 32))
    replace HV := Lib.hid (HV.out.trans (hb.mono HV.out.size))
    replace X3 := Lib.hid (bget' hb X3.out)
    replace X5 := Lib.hid (bget' hb X5.out)
    replace X11 := Lib.hid (bget' hb X11.out)
    replace X13 := Lib.hid (bget' hb X13.out)
    replace HT := Lib.hid (TmAt.keep hb hb.size _ _ HT.out)
    replace HQ := Lib.hid (TmAt.keep hb hb.size _ _ HQ.out)
    replace HP := Lib.hid (HP.out.mono hb.size fun b o hlt hr => IntsAt.keep hb _ b o hlt hr)
    clear hb
    generalize (w12.alloc (.cells #[.int .i64 0, .int .i64 0, .string ⟨#[]⟩, .slice none 0 0, .slice none 0 0] 32)) = w13 at *
    have X15 := X15n
    clear X15n
    obtain ⟨c00, c01, c02, c03, c04⟩ := cells5 X11.out
    go_wp2_with fail
    refine (none_any zeroM _ w13 (zeroM_at _ _)).mono ?_
    rintro e w14 ⟨rfl, hb⟩
    replace HV := Lib.hid (HV.out.trans (hb.mono HV.out.size))
    replace X3 := Lib.hid (bget' hb X3.out)
    replace X5 := Lib.hid (bget' hb X5.out)
    replace X11 := Lib.hid (bget' hb X11.out)
    replace X13 := Lib.hid (bget' hb X13.out)
    replace X15 := Lib.hid (bget' hb X15.out)
    replace HT := Lib.hid (TmAt.keep hb hb.size _ _ HT.out)
    replace HQ := Lib.hid (TmAt.keep hb hb.size _ _ HQ.out)
    replace HP := Lib.hid (HP.out.mono hb.size fun b o hlt hr => IntsAt.keep hb _ b o hlt hr)
    rw [eqM_zero]
    clear hb
    clear c00 c01 c02 c03 c04
    obtain ⟨c00, c01, c02, c03, c04⟩ := cells5 X13.out
    go_wp2_with fail
    refine (none_any zeroM _ w14 (zeroM_at _ _)).mono ?_
    rintro e w15 ⟨rfl, hb⟩
    replace HV := Lib.hid (HV.out.trans (hb.mono HV.out.size))
    replace X3 := Lib.hid (bget' hb X3.out)
    replace X5 := Lib.hid (bget' hb X5.out)
    replace X11 := Lib.hid (bget' hb X11.out)
    replace X13 := Lib.hid (bget' hb X13.out)
    replace X15 := Lib.hid (bget' hb X15.out)
    replace HT := Lib.hid (TmAt.keep hb hb.size _ _ HT.out)
    replace HQ := Lib.hid (TmAt.keep hb hb.size _ _ HQ.out)
    replace HP := Lib.hid (HP.out.mono hb.size fun b o hlt hr => IntsAt.keep hb _ b o hlt hr)
    rw [eqM_zero]
    clear hb
    clear c00 c01 c02 c03 c04
    go_wp2_with fail
    refine (known_any _).mono ?_
    rintro e wk ⟨rfl, hb⟩
    replace HV := Lib.hid (HV.out.trans (hb.mono HV.out.size))
    clear hb
    go_wp2
    go_ret
    exact ⟨rfl, HV.out⟩
  | some r =>
  have HAT := Lib.hid hat
  clear hat
  cases hqb : termB q with
  | false =>
    have HQB := Lib.hid hqb
    clear hqb
    obtain ⟨c00, c01, c02, c03, c04⟩ := cells5 X3.out
    go_wp2_with fail
    refine (C37 HTB.out _ (Nodes_any t _ w2 HT.out HF.h HF.ok)).mono ?_
    rintro e w3 ⟨rfl, hb⟩
    replace HV := Lib.hid (HV.out.trans (hb.mono HV.out.size))
    replace X3 := Lib.hid (bget' hb X3.out)
    replace X5 := Lib.hid (bget' hb X5.out)
    replace HT := Lib.hid (TmAt.keep hb hb.size _ _ HT.out)
    replace HQ := Lib.hid (TmAt.keep hb hb.size _ _ HQ.out)
    replace HP := Lib.hid (HP.out.mono hb.size fun b o hlt hr => IntsAt.keep hb _ b o hlt hr)
    clear hb
    clear c00 c01 c02 c03 c04
    obtain ⟨c00, c01, c02, c03, c04⟩ := cells5 X3.out
    go_wp2_with fail
    refine (C38 HTB.out _ (Depth_any t _ w3 HT.out HF.h HF.ok)).mono ?_
    rintro e w4 ⟨rfl, hb⟩
    replace HV := Lib.hid (HV.out.trans (hb.mono HV.out.size))
    replace X3 := Lib.hid (bget' hb X3.out)
    replace X5 := Lib.hid (bget' hb X5.out)
    replace HT := Lib.hid (TmAt.keep hb hb.size _ _ HT.out)
    replace HQ := Lib.hid (TmAt.keep hb hb.size _ _ HQ.out)
    replace HP := Lib.hid (HP.out.mono hb.size fun b o hlt hr => IntsAt.keep hb _ b o hlt hr)
    clear hb
    clear c00 c01 c02 c03 c04
    obtain ⟨c00, c01, c02, c03, c04⟩ := cells5 X3.out
    go_wp2_with fail
    refine (At_any t _ (.slice pa path.length pcap) path w4 HT.out HP.out hl HF).mono ?_
    rintro e w5 ⟨he, hb⟩
    replace HV := Lib.hid (HV.out.trans (hb.mono HV.out.size))
    replace X3 := Lib.hid (bget' hb X3.out)
    replace X5 := Lib.hid (bget' hb X5.out)
    replace HT := Lib.hid (TmAt.keep hb hb.size _ _ HT.out)
    replace HQ := Lib.hid (TmAt.keep hb hb.size _ _ HQ.out)
    replace HP := Lib.hid (HP.out.mono hb.size fun b o hlt hr => IntsAt.keep hb _ b o hlt hr)
    obtain ⟨va, rfl, hva⟩ := AtEnd.yes he HTB.out HAT.out
    have HA := Lib.hid hva.at
    clear hva
    obtain ⟨aa, ac, aa', ac', rfl, -⟩ := HA.out.parts
    clear hb
    clear c00 c01 c02 c03 c04
    go_upto_region 6 with fail
    have hb := (Below.refl _ w5).alloc (Nat.le_refl _) (.cells #[.int .i64 r.op, .int .i64 r.n, .string r.text, .slice aa r.kids.length ac, .slice aa' r.pats.length ac'] 32)
    have X11n := Lib.hid (heap_alloc_new w5 (.cells #[.int .i64 r.op, .int .i64 r.n, .string r.text, .slice aa r.kids.length ac, .slice aa' r.pats.length ac'] 32))
    replace HV := Lib.hid (HV.out.trans (hb.mono HV.out.size))
    replace X3 := Lib.hid (bget' hb X3.out)
    replace X5 := Lib.hid (bget' hb X5.out)
    replace HT := Lib.hid (TmAt.keep hb hb.size _ _ HT.out)
    replace HQ := Lib.hid (TmAt.keep hb hb.size _ _ HQ.out)
    replace HA := Lib.hid (TmAt.keep hb hb.size _ _ HA.out)
    replace HP := Lib.hid (HP.out.mono hb.size fun b o hlt hr => IntsAt.keep hb _ b o hlt hr)
    clear hb
    generalize (w5.alloc (.cells #[.int .i64 r.op, .int .i64 r.n, .string r.text, .slice aa r.kids.length ac, .slice aa' r.pats.length ac'] 32)) = w6 at *
    have X11 := X11n
    clear X11n
    obtain ⟨c00, c01, c02, c03, c04⟩ := cells5 X3.out
    obtain ⟨c10, c11, c12, c13, c14⟩ := cells5 X5.out
    go_wp2_with fail
    refine (Put_any t q _ _ (.slice pa path.length pcap) path w6 HT.out HQ.out HP.out hl HF HG).mono ?_
    rintro e w7 ⟨he, hb⟩
    replace HV := Lib.hid (HV.out.trans (hb.mono HV.out.size))
    replace X3 := Lib.hid (bget' hb X3.out)
    replace X5 := Lib.hid (bget' hb X5.out)
    replace X11 := Lib.hid (bget' hb X11.out)
    replace HT := Lib.hid (TmAt.keep hb hb.size _ _ HT.out)
    replace HQ := Lib.hid (TmAt.keep hb hb.size _ _ HQ.out)
    replace HA := Lib.hid (TmAt.keep hb hb.size _ _ HA.out)
    replace HP := Lib.hid (HP.out.mono hb.size fun b o hlt hr => IntsAt.keep hb _ b o hlt hr)
    obtain rfl := PutEnd.no he (by rw [HQB.out]; simp)
    unfold zeroV
    clear hb
    clear c00 c01 c02 c03 c04 c10 c11 c12 c13 c14
    go_upto_region 7 with fail
    have hb := (Below.refl _ w7).alloc (Nat.le_refl _) (.cells #[.int .i64 0, .int .i64 0, .string ⟨#[]⟩, .slice none 0 0, .slice none 0 0] 32)
    have X13n := Lib.hid (heap_alloc_new w7 (.cells #[.int .i64 0, .int .i64 0, .string ⟨#[]⟩, .slice none 0 0, .slice none 0 0] 32))
    replace HV := Lib.hid (HV.out.trans (hb.mono HV.out.size))
    replace X3 := Lib.hid (bget' hb X3.out)
    replace X5 := Lib.hid (bget' hb X5.out)
    replace X11 := Lib.hid (bget' hb X11.out)
    replace HT := Lib.hid (TmAt.keep hb hb.size _ _ HT.out)
    replace HQ := Lib.hid (TmAt.keep hb hb.size _ _ HQ.out)
    replace HA := Lib.hid (TmAt.keep hb hb.size _ _ HA.out)
    replace HP := Lib.hid (HP.out.mono hb.size fun b o hlt hr => IntsAt.keep hb _ b o hlt hr)
    clear hb
    generalize (w7.alloc (.cells #[.int .i64 0, .int .i64 0, .string ⟨#[]⟩, .slice none 0 0, .slice none 0 0] 32)) = w8 at *
    have X13 := X13n
    clear X13n
    obtain ⟨c00, c01, c02, c03, c04⟩ := cells5 X3.out
    go_wp2_with fail
    refine (C30 t w8 HT.out HF.ok).mono ?_
    rintro e w9 ⟨rfl, hb⟩
    replace HV := Lib.hid (HV.out.trans (hb.mono HV.out.size))
    replace X3 := Lib.hid (bget' hb X3.out)
    replace X5 := Lib.hid (bget' hb X5.out)
    replace X11 := Lib.hid (bget' hb X11.out)
    replace X13 := Lib.hid (bget' hb X13.out)
    replace HT := Lib.hid (TmAt.keep hb hb.size _ _ HT.out)
    replace HQ := Lib.hid (TmAt.keep hb hb.size _ _ HQ.out)
    replace HA := Lib.hid (TmAt.keep hb hb.size _ _ HA.out)
    replace HP := Lib.hid (HP.out.mono hb.size fun b o hlt hr => IntsAt.keep hb _ b o hlt hr)
    rw [HTB.out]
    clear hb
    clear c00 c01 c02 c03 c04
    obtain ⟨c00, c01, c02, c03, c04⟩ := cells5 X3.out
    go_wp2_with fail
    refine (refNodes_any t _ w9 HT.out HND).mono ?_
    rintro e w10 ⟨rfl, hb⟩
    replace HV := Lib.hid (HV.out.trans (hb.mono HV.out.size))
    replace X3 := Lib.hid (bget' hb X3.out)
    replace X5 := Lib.hid (bget' hb X5.out)
    replace X11 := Lib.hid (bget' hb X11.out)
    replace X13 := Lib.hid (bget' hb X13.out)
    replace HT := Lib.hid (TmAt.keep hb hb.size _ _ HT.out)
    replace HQ := Lib.hid (TmAt.keep hb hb.size _ _ HQ.out)
    replace HA := Lib.hid (TmAt.keep hb hb.size _ _ HA.out)
    replace HP := Lib.hid (HP.out.mono hb.size fun b o hlt hr => IntsAt.keep hb _ b o hlt hr)
    clear hb
    clear c00 c01 c02 c03 c04
    obtain ⟨c00, c01, c02, c03, c04⟩ := cells5 X3.out
    go_wp2_with fail
    refine (refDepth_any t _ w10 HT.out HDP).mono ?_
    rintro e w11 ⟨rfl, hb⟩
    replace HV := Lib.hid (HV.out.trans (hb.mono HV.out.size))
    replace X3 := Lib.hid (bget' hb X3.out)
    replace X5 := Lib.hid (bget' hb X5.out)
    replace X11 := Lib.hid (bget' hb X11.out)
    replace X13 := Lib.hid (bget' hb X13.out)
    replace HT := Lib.hid (TmAt.keep hb hb.size _ _ HT.out)
    replace HQ := Lib.hid (TmAt.keep hb hb.size _ _ HQ.out)
    replace HA := Lib.hid (TmAt.keep hb hb.size _ _ HA.out)
    replace HP := Lib.hid (HP.out.mono hb.size fun b o hlt hr => IntsAt.keep hb _ b o hlt hr)
    clear hb
    clear c00 c01 c02 c03 c04
    obtain ⟨c00, c01, c02, c03, c04⟩ := cells5 X3.out
    go_wp2_with fail
    refine (refAt_any t _ (.slice pa path.length pcap) path w11 HT.out HP.out hl).mono ?_
    rintro e w12 ⟨he, hb⟩
    replace HV := Lib.hid (HV.out.trans (hb.mono HV.out.size))
    replace X3 := Lib.hid (bget' hb X3.out)
    replace X5 := Lib.hid (bget' hb X5.out)
    replace X11 := Lib.hid (bget' hb X11.out)
    replace X13 := Lib.hid (bget' hb X13.out)
    replace HT := Lib.hid (TmAt.keep hb hb.size _ _ HT.out)
    replace HQ := Lib.hid (TmAt.keep hb hb.size _ _ HQ.out)
    replace HA := Lib.hid (TmAt.keep hb hb.size _ _ HA.out)
    replace HP := Lib.hid (HP.out.mono hb.size fun b o hlt hr => IntsAt.keep hb _ b o hlt hr)
    obtain ⟨vx, rfl, hvx⟩ := RefAtEnd.yes he HAT.out
    have HX := Lib.hid (TmAt.keep (Below.refl _ _) hb.size _ _ hvx)
    clear hvx
    obtain ⟨xa, xc, xa', xc', rfl, -⟩ := HX.out.parts
    clear hb
    clear c00 c01 c02 c03 c04
    go_upto_region 12 with fail
    have hb := (Below.refl _ w12).alloc (Nat.le_refl _) (.cells #[.int .i64 r.op, .int .i64 r.n, .string r.text, .slice xa r.kids.length xc, .slice xa' r.pats.length xc'] 32)
    have X15n := Lib.hid (heap_alloc_new w12 (.cells #[.int .i64 r.op, .int .i64 r.n, .string r.text, .slice xa r.kids.length xc, .slice xa' r.pats.length xc'] 32))
    replace HV := Lib.hid (HV.out.trans (hb.mono HV.out.size))
    replace X3 := Lib.hid (bget' hb X3.out)
    replace X5 := Lib.hid (bget' hb X5.out)
    replace X11 := Lib.hid (bget' hb X11.out)
    replace X13 := Lib.hid (bget' hb X13.out)
    replace HT := Lib.hid (TmAt.keep hb hb.size _ _ HT.out)
    replace HQ := Lib.hid (TmAt.keep hb hb.size _ _ HQ.out)
    replace HA := Lib.hid (TmAt.keep hb hb.size _ _ HA.out)
    replace HX := Lib.hid (TmAt.keep hb hb.size _ _ HX.out)
    replace HP := Lib.hid (HP.out.mono hb.size fun b o hlt hr => IntsAt.keep hb _ b o hlt hr)
    clear hb
    generalize (w12.alloc (.cells #[.int .i64 r.op, .int .i64 r.n, .string r.text, .slice xa r.kids.length xc, .slice xa' r.pats.length xc'] 32)) = w13 at *
    have X15 := X15n
    clear X15n
    obtain ⟨c00, c01, c02, c03, c04⟩ := cells5 X11.out
    obtain ⟨c10, c11, c12, c13, c14⟩ := cells5 X15.out
    go_wp2_with fail
    refine (Same_any r r _ _ w13 HA.out HX.out).mono ?_
    rintro e w14 ⟨rfl, hb⟩
    replace HV := Lib.hid (HV.out.trans (hb.mono HV.out.size))
    replace X3 := Lib.hid (bget' hb X3.out)
    replace X5 := Lib.hid (bget' hb X5.out)
    replace X11 := Lib.hid (bget' hb X11.out)
    replace X13 := Lib.hid (bget' hb X13.out)
    replace X15 := Lib.hid (bget' hb X15.out)
    replace HT := Lib.hid (TmAt.keep hb hb.size _ _ HT.out)
    replace HQ := Lib.hid (TmAt.keep hb hb.size _ _ HQ.out)
    replace HA := Lib.hid (TmAt.keep hb hb.size _ _ HA.out)
    replace HX := Lib.hid (TmAt.keep hb hb.size _ _ HX.out)
    replace HP := Lib.hid (HP.out.mono hb.size fun b o hlt hr => IntsAt.keep hb _ b o hlt hr)
    rw [eqM_refl]
    clear hb
    clear c00 c01 c02 c03 c04 c10 c11 c12 c13 c14
    obtain ⟨c00, c01, c02, c03, c04⟩ := cells5 X5.out
    go_wp2_with fail
    refine (C30 q w14 HQ.out HG.ok).mono ?_
    rintro e w15 ⟨rfl, hb⟩
    replace HV := Lib.hid (HV.out.trans (hb.mono HV.out.size))
    replace X3 := Lib.hid (bget' hb X3.out)
    replace X5 := Lib.hid (bget' hb X5.out)
    replace X11 := Lib.hid (bget' hb X11.out)
    replace X13 := Lib.hid (bget' hb X13.out)
    replace X15 := Lib.hid (bget' hb X15.out)
    replace HT := Lib.hid (TmAt.keep hb hb.size _ _ HT.out)
    replace HQ := Lib.hid (TmAt.keep hb hb.size _ _ HQ.out)
    replace HA := Lib.hid (TmAt.keep hb hb.size _ _ HA.out)
    replace HX := Lib.hid (TmAt.keep hb hb.size _ _ HX.out)
    replace HP := Lib.hid (HP.out.mono hb.size fun b o hlt hr => IntsAt.keep hb _ b o hlt hr)
    rw [HQB.out]
    clear hb
    clear c00 c01 c02 c03 c04
    obtain ⟨c00, c01, c02, c03, c04⟩ := cells5 X13.out
    go_wp2_with fail
    refine (none_any zeroM _ w15 (zeroM_at _ _)).mono ?_
    rintro e w16 ⟨rfl, hb⟩
    replace HV := Lib.hid (HV.out.trans (hb.mono HV.out.size))
    replace X3 := Lib.hid (bget' hb X3.out)
    replace X5 := Lib.hid (bget' hb X5.out)
    replace X11 := Lib.hid (bget' hb X11.out)
    replace X13 := Lib.hid (bget' hb X13.out)
    replace X15 := Lib.hid (bget' hb X15.out)
    replace HT := Lib.hid (TmAt.keep hb hb.size _ _ HT.out)
    replace HQ := Lib.hid (TmAt.keep hb hb.size _ _ HQ.out)
    replace HA := Lib.hid (TmAt.keep hb hb.size _ _ HA.out)
    replace HX := Lib.hid (TmAt.keep hb hb.size _ _ HX.out)
    replace HP := Lib.hid (HP.out.mono hb.size fun b o hlt hr => IntsAt.keep hb _ b o hlt hr)
    rw [eqM_zero]
    clear hb
    clear c00 c01 c02 c03 c04
    go_wp2_with fail
    refine (known_any _).mono ?_
    rintro e wk ⟨rfl, hb⟩
    replace HV := Lib.hid (HV.out.trans (hb.mono HV.out.size))
    clear hb
    go_wp2
    go_ret
    exact ⟨rfl, HV.out⟩
  | true =>
  have HQB := Lib.hid hqb
  clear hqb
  have HPO : okM (putM t path q) := (put_fit q HG.ok HG.len path t HF.ok HF.len).1
  cases hpb : termB (putM t path q) with
  | false =>
    have HPB := Lib.hid hpb
    clear hpb
    obtain ⟨c00, c01, c02, c03, c04⟩ := cells5 X3.out
    go_wp2_with fail
    refine (C37 HTB.out _ (Nodes_any t _ w2 HT.out HF.h HF.ok)).mono ?_
    rintro e w3 ⟨rfl, hb⟩
    replace HV := Lib.hid (HV.out.trans (hb.mono HV.out.size))
    replace X3 := Lib.hid (bget' hb X3.out)
    replace X5 := Lib.hid (bget' hb X5.out)
    replace HT := Lib.hid (TmAt.keep hb hb.size _ _ HT.out)
    replace HQ := Lib.hid (TmAt.keep hb hb.size _ _ HQ.out)
    replace HP := Lib.hid (HP.out.mono hb.size fun b o hlt hr => IntsAt.keep hb _ b o hlt hr)
    clear hb
    clear c00 c01 c02 c03 c04
    obtain ⟨c00, c01, c02, c03, c04⟩ := cells5 X3.out
    go_wp2_with fail
    refine (C38 HTB.out _ (Depth_any t _ w3 HT.out HF.h HF.ok)).mono ?_
    rintro e w4 ⟨rfl, hb⟩
    replace HV := Lib.hid (HV.out.trans (hb.mono HV.out.size))
    replace X3 := Lib.hid (bget' hb X3.out)
    replace X5 := Lib.hid (bget' hb X5.out)
    replace HT := Lib.hid (TmAt.keep hb hb.size _ _ HT.out)
    replace HQ := Lib.hid (TmAt.keep hb hb.size _ _ HQ.out)
    replace HP := Lib.hid (HP.out.mono hb.size fun b o hlt hr => IntsAt.keep hb _ b o hlt hr)
    clear hb
    clear c00 c01 c02 c03 c04
    obtain ⟨c00, c01, c02, c03, c04⟩ := cells5 X3.out
    go_wp2_with fail
    refine (At_any t _ (.slice pa path.length pcap) path w4 HT.out HP.out hl HF).mono ?_
    rintro e w5 ⟨he, hb⟩
    replace HV := Lib.hid (HV.out.trans (hb.mono HV.out.size))
    replace X3 := Lib.hid (bget' hb X3.out)
    replace X5 := Lib.hid (bget' hb X5.out)
    replace HT := Lib.hid (TmAt.keep hb hb.size _ _ HT.out)
    replace HQ := Lib.hid (TmAt.keep hb hb.size _ _ HQ.out)
    replace HP := Lib.hid (HP.out.mono hb.size fun b o hlt hr => IntsAt.keep hb _ b o hlt hr)
    obtain ⟨va, rfl, hva⟩ := AtEnd.yes he HTB.out HAT.out
    have HA := Lib.hid hva.at
    clear hva
    obtain ⟨aa, ac, aa', ac', rfl, -⟩ := HA.out.parts
    clear hb
    clear c00 c01 c02 c03 c04
    go_upto_region 6 with fail
    have hb := (Below.refl _ w5).alloc (Nat.le_refl _) (.cells #[.int .i64 r.op, .int .i64 r.n, .string r.text, .slice aa r.kids.length ac, .slice aa' r.pats.length ac'] 32)
    have X11n := Lib.hid (heap_alloc_new w5 (.cells #[.int .i64 r.op, .int .i64 r.n, .string r.text, .slice aa r.kids.length ac, .slice aa' r.pats.length ac'] 32))
    replace HV := Lib.hid (HV.out.trans (hb.mono HV.out.size))
    replace X3 := Lib.hid (bget' hb X3.out)
    replace X5 := Lib.hid (bget' hb X5.out)
    replace HT := Lib.hid (TmAt.keep hb hb.size _ _ HT.out)
    replace HQ := Lib.hid (TmAt.keep hb hb.size _ _ HQ.out)
    replace HA := Lib.hid (TmAt.keep hb hb.size _ _ HA.out)
    replace HP := Lib.hid (HP.out.mono hb.size fun b o hlt hr => IntsAt.keep hb _ b o hlt hr)
    clear hb
    generalize (w5.alloc (.cells #[.int .i64 r.op, .int .i64 r.n, .string r.text, .slice aa r.kids.length ac, .slice aa' r.pats.length ac'] 32)) = w6 at *
    have X11 := X11n
    clear X11n
    obtain ⟨c00, c01, c02, c03, c04⟩ := cells5 X3.out
    obtain ⟨c10, c11, c12, c13, c14⟩ := cells5 X5.out
    go_wp2_with fail
    refine (Put_any t q _ _ (.slice pa path.length pcap) path w6 HT.out HQ.out HP.out hl HF HG).mono ?_
    rintro e w7 ⟨he, hb⟩
    replace HV := Lib.hid (HV.out.trans (hb.mono HV.out.size))
    replace X3 := Lib.hid (bget' hb X3.out)
    replace X5 := Lib.hid (bget' hb X5.out)
    replace X11 := Lib.hid (bget' hb X11.out)
    replace HT := Lib.hid (TmAt.keep hb hb.size _ _ HT.out)
    replace HQ := Lib.hid (TmAt.keep hb hb.size _ _ HQ.out)
    replace HA := Lib.hid (TmAt.keep hb hb.size _ _ HA.out)
    replace HP := Lib.hid (HP.out.mono hb.size fun b o hlt hr => IntsAt.keep hb _ b o hlt hr)
    obtain rfl := PutEnd.long he (by rw [HTB.out, HAT.out, HQB.out]; rfl) HPB.out
    unfold zeroV
    clear hb
    clear c00 c01 c02 c03 c04 c10 c11 c12 c13 c14
    go_upto_region 7 with fail
    have hb := (Below.refl _ w7).alloc (Nat.le_refl _) (.cells #[.int .i64 0, .int .i64 0, .string ⟨#[]⟩, .slice none 0 0, .slice none 0 0] 32)
    have X13n := Lib.hid (heap_alloc_new w7 (.cells #[.int .i64 0, .int .i64 0, .string ⟨#[]⟩, .slice none 0 0, .slice none 0 0] 32))
    replace HV := Lib.hid (HV.out.trans (hb.mono HV.out.size))
    replace X3 := Lib.hid (bget' hb X3.out)
    replace X5 := Lib.hid (bget' hb X5.out)
    replace X11 := Lib.hid (bget' hb X11.out)
    replace HT := Lib.hid (TmAt.keep hb hb.size _ _ HT.out)
    replace HQ := Lib.hid (TmAt.keep hb hb.size _ _ HQ.out)
    replace HA := Lib.hid (TmAt.keep hb hb.size _ _ HA.out)
    replace HP := Lib.hid (HP.out.mono hb.size fun b o hlt hr => IntsAt.keep hb _ b o hlt hr)
    clear hb
    generalize (w7.alloc (.cells #[.int .i64 0, .int .i64 0, .string ⟨#[]⟩, .slice none 0 0, .slice none 0 0] 32)) = w8 at *
    have X13 := X13n
    clear X13n
    obtain ⟨c00, c01, c02, c03, c04⟩ := cells5 X3.out
    go_wp2_with fail
    refine (C30 t w8 HT.out HF.ok).mono ?_
    rintro e w9 ⟨rfl, hb⟩
    replace HV := Lib.hid (HV.out.trans (hb.mono HV.out.size))
    replace X3 := Lib.hid (bget' hb X3.out)
    replace X5 := Lib.hid (bget' hb X5.out)
    replace X11 := Lib.hid (bget' hb X11.out)
    replace X13 := Lib.hid (bget' hb X13.out)
    replace HT := Lib.hid (TmAt.keep hb hb.size _ _ HT.out)
    replace HQ := Lib.hid (TmAt.keep hb hb.size _ _ HQ.out)
    replace HA := Lib.hid (TmAt.keep hb hb.size _ _ HA.out)
    replace HP := Lib.hid (HP.out.mono hb.size fun b o hlt hr => IntsAt.keep hb _ b o hlt hr)
    rw [HTB.out]
    clear hb
    clear c00 c01 c02 c03 c04
    obtain ⟨c00, c01, c02, c03, c04⟩ := cells5 X3.out
    go_wp2_with fail
    refine (refNodes_any t _ w9 HT.out HND).mono ?_
    rintro e w10 ⟨rfl, hb⟩
    replace HV := Lib.hid (HV.out.trans (hb.mono HV.out.size))
    replace X3 := Lib.hid (bget' hb X3.out)
    replace X5 := Lib.hid (bget' hb X5.out)
    replace X11 := Lib.hid (bget' hb X11.out)
    replace X13 := Lib.hid (bget' hb X13.out)
    replace HT := Lib.hid (TmAt.keep hb hb.size _ _ HT.out)
    replace HQ := Lib.hid (TmAt.keep hb hb.size _ _ HQ.out)
    replace HA := Lib.hid (TmAt.keep hb hb.size _ _ HA.out)
    replace HP := Lib.hid (HP.out.mono hb.size fun b o hlt hr => IntsAt.keep hb _ b o hlt hr)
    clear hb
    clear c00 c01 c02 c03 c04
    obtain ⟨c00, c01, c02, c03, c04⟩ := cells5 X3.out
    go_wp2_with fail
    refine (refDepth_any t _ w10 HT.out HDP).mono ?_
    rintro e w11 ⟨rfl, hb⟩
    replace HV := Lib.hid (HV.out.trans (hb.mono HV.out.size))
    replace X3 := Lib.hid (bget' hb X3.out)
    replace X5 := Lib.hid (bget' hb X5.out)
    replace X11 := Lib.hid (bget' hb X11.out)
    replace X13 := Lib.hid (bget' hb X13.out)
    replace HT := Lib.hid (TmAt.keep hb hb.size _ _ HT.out)
    replace HQ := Lib.hid (TmAt.keep hb hb.size _ _ HQ.out)
    replace HA := Lib.hid (TmAt.keep hb hb.size _ _ HA.out)
    replace HP := Lib.hid (HP.out.mono hb.size fun b o hlt hr => IntsAt.keep hb _ b o hlt hr)
    clear hb
    clear c00 c01 c02 c03 c04
    obtain ⟨c00, c01, c02, c03, c04⟩ := cells5 X3.out
    go_wp2_with fail
    refine (refAt_any t _ (.slice pa path.length pcap) path w11 HT.out HP.out hl).mono ?_
    rintro e w12 ⟨he, hb⟩
    replace HV := Lib.hid (HV.out.trans (hb.mono HV.out.size))
    replace X3 := Lib.hid (bget' hb X3.out)
    replace X5 := Lib.hid (bget' hb X5.out)
    replace X11 := Lib.hid (bget' hb X11.out)
    replace X13 := Lib.hid (bget' hb X13.out)
    replace HT := Lib.hid (TmAt.keep hb hb.size _ _ HT.out)
    replace HQ := Lib.hid (TmAt.keep hb hb.size _ _ HQ.out)
    replace HA := Lib.hid (TmAt.keep hb hb.size _ _ HA.out)
    replace HP := Lib.hid (HP.out.mono hb.size fun b o hlt hr => IntsAt.keep hb _ b o hlt hr)
    obtain ⟨vx, rfl, hvx⟩ := RefAtEnd.yes he HAT.out
    have HX := Lib.hid (TmAt.keep (Below.refl _ _) hb.size _ _ hvx)
    clear hvx
    obtain ⟨xa, xc, xa', xc', rfl, -⟩ := HX.out.parts
    clear hb
    clear c00 c01 c02 c03 c04
    go_upto_region 12 with fail
    have hb := (Below.refl _ w12).alloc (Nat.le_refl _) (.cells #[.int .i64 r.op, .int .i64 r.n, .string r.text, .slice xa r.kids.length xc, .slice xa' r.pats.length xc'] 32)
    have X15n := Lib.hid (heap_alloc_new w12 (.cells #[.int .i64 r.op, .int .i64 r.n, .string r.text, .slice xa r.kids.length xc, .slice xa' r.pats.length xc'] 32))
    replace HV := Lib.hid (HV.out.trans (hb.mono HV.out.size))
    replace X3 := Lib.hid (bget' hb X3.out)
    replace X5 := Lib.hid (bget' hb X5.out)
    replace X11 := Lib.hid (bget' hb X11.out)
    replace X13 := Lib.hid (bget' hb X13.out)
    replace HT := Lib.hid (TmAt.keep hb hb.size _ _ HT.out)
    replace HQ := Lib.hid (TmAt.keep hb hb.size _ _ HQ.out)
    replace HA := Lib.hid (TmAt.keep hb hb.size _ _ HA.out)
    replace HX := Lib.hid (TmAt.keep hb hb.size _ _ HX.out)
    replace HP := Lib.hid (HP.out.mono hb.size fun b o hlt hr => IntsAt.keep hb _ b o hlt hr)
    clear hb
    generalize (w12.alloc (.cells #[.int .i64 r.op, .int .i64 r.n, .string r.text, .slice xa r.kids.length xc, .slice xa' r.pats.length xc'] 32)) = w13 at *
    have X15 := X15n
    clear X15n
    obtain ⟨c00, c01, c02, c03, c04⟩ := cells5 X11.out
    obtain ⟨c10, c11, c12, c13, c14⟩ := cells5 X15.out
    go_wp2_with fail
    refine (Same_any r r _ _ w13 HA.out HX.out).mono ?_
    rintro e w14 ⟨rfl, hb⟩
    replace HV := Lib.hid (HV.out.trans (hb.mono HV.out.size))
    replace X3 := Lib.hid (bget' hb X3.out)
    replace X5 := Lib.hid (bget' hb X5.out)
    replace X11 := Lib.hid (bget' hb X11.out)
    replace X13 := Lib.hid (bget' hb X13.out)
    replace X15 := Lib.hid (bget' hb X15.out)
    replace HT := Lib.hid (TmAt.keep hb hb.size _ _ HT.out)
    replace HQ := Lib.hid (TmAt.keep hb hb.size _ _ HQ.out)
    replace HA := Lib.hid (TmAt.keep hb hb.size _ _ HA.out)
    replace HX := Lib.hid (TmAt.keep hb hb.size _ _ HX.out)
    replace HP := Lib.hid (HP.out.mono hb.size fun b o hlt hr => IntsAt.keep hb _ b o hlt hr)
    rw [eqM_refl]
    clear hb
    clear c00 c01 c02 c03 c04 c10 c11 c12 c13 c14
    obtain ⟨c00, c01, c02, c03, c04⟩ := cells5 X5.out
    go_wp2_with fail
    refine (C30 q w14 HQ.out HG.ok).mono ?_
    rintro e w15 ⟨rfl, hb⟩
    replace HV := Lib.hid (HV.out.trans (hb.mono HV.out.size))
    replace X3 := Lib.hid (bget' hb X3.out)
    replace X5 := Lib.hid (bget' hb X5.out)
    replace X11 := Lib.hid (bget' hb X11.out)
    replace X13 := Lib.hid (bget' hb X13.out)
    replace X15 := Lib.hid (bget' hb X15.out)
    replace HT := Lib.hid (TmAt.keep hb hb.size _ _ HT.out)
    replace HQ := Lib.hid (TmAt.keep hb hb.size _ _ HQ.out)
    replace HA := Lib.hid (TmAt.keep hb hb.size _ _ HA.out)
    replace HX := Lib.hid (TmAt.keep hb hb.size _ _ HX.out)
    replace HP := Lib.hid (HP.out.mono hb.size fun b o hlt hr => IntsAt.keep hb _ b o hlt hr)
    rw [HQB.out]
    clear hb
    clear c00 c01 c02 c03 c04
    obtain ⟨c00, c01, c02, c03, c04⟩ := cells5 X3.out
    obtain ⟨c10, c11, c12, c13, c14⟩ := cells5 X5.out
    go_wp2_with fail
    refine (refPut_any q w15.heap.size path t _ _ (.slice pa path.length pcap) w15 (Nat.le_refl _) HT.out HQ.out HP.out hl HF.len (by rw [HAT.out]; rfl)).mono ?_
    rintro e w16 ⟨⟨vy, rfl, hvy⟩, hb⟩
    replace HV := Lib.hid (HV.out.trans (hb.mono HV.out.size))
    replace X3 := Lib.hid (bget' hb X3.out)
    replace X5 := Lib.hid (bget' hb X5.out)
    replace X11 := Lib.hid (bget' hb X11.out)
    replace X13 := Lib.hid (bget' hb X13.out)
    replace X15 := Lib.hid (bget' hb X15.out)
    replace HT := Lib.hid (TmAt.keep hb hb.size _ _ HT.out)
    replace HQ := Lib.hid (TmAt.keep hb hb.size _ _ HQ.out)
    replace HA := Lib.hid (TmAt.keep hb hb.size _ _ HA.out)
    replace HX := Lib.hid (TmAt.keep hb hb.size _ _ HX.out)
    replace HP := Lib.hid (HP.out.mono hb.size fun b o hlt hr => IntsAt.keep hb _ b o hlt hr)
    have HY := Lib.hid hvy.at
    clear hvy
    obtain ⟨ya, yc, ya', yc', rfl, -⟩ := HY.out.parts
    clear hb
    clear c00 c01 c02 c03 c04 c10 c11 c12 c13 c14
    go_upto_region 19 with fail
    have hb := (Below.refl _ w16).alloc (Nat.le_refl _) (.cells #[.int .i64 (putM t path q).op, .int .i64 (putM t path q).n, .string (putM t path q).text, .slice ya (putM t path q).kids.length yc, .slice ya' (putM t path q).pats.length yc'] 32)
    have X17n := Lib.hid (heap_alloc_new w16 (.cells #[.int .i64 (putM t path q).op, .int .i64 (putM t path q).n, .string (putM t path q).text, .slice ya (putM t path q).kids.length yc, .slice ya' (putM t path q).pats.length yc'] 32))
    replace HV := Lib.hid (HV.out.trans (hb.mono HV.out.size))
    replace X3 := Lib.hid (bget' hb X3.out)
    replace X5 := Lib.hid (bget' hb X5.out)
    replace X11 := Lib.hid (bget' hb X11.out)
    replace X13 := Lib.hid (bget' hb X13.out)
    replace X15 := Lib.hid (bget' hb X15.out)
    replace HT := Lib.hid (TmAt.keep hb hb.size _ _ HT.out)
    replace HQ := Lib.hid (TmAt.keep hb hb.size _ _ HQ.out)
    replace HA := Lib.hid (TmAt.keep hb hb.size _ _ HA.out)
    replace HX := Lib.hid (TmAt.keep hb hb.size _ _ HX.out)
    replace HY := Lib.hid (TmAt.keep hb hb.size _ _ HY.out)
    replace HP := Lib.hid (HP.out.mono hb.size fun b o hlt hr => IntsAt.keep hb _ b o hlt hr)
    clear hb
    generalize (w16.alloc (.cells #[.int .i64 (putM t path q).op, .int .i64 (putM t path q).n, .string (putM t path q).text, .slice ya (putM t path q).kids.length yc, .slice ya' (putM t path q).pats.length yc'] 32)) = w17 at *
    have X17 := X17n
    clear X17n
    obtain ⟨c00, c01, c02, c03, c04⟩ := cells5 X17.out
    go_wp2_with fail
    refine (C30 (putM t path q) w17 HY.out HPO).mono ?_
    rintro e w18 ⟨rfl, hb⟩
    replace HV := Lib.hid (HV.out.trans (hb.mono HV.out.size))
    replace X3 := Lib.hid (bget' hb X3.out)
    replace X5 := Lib.hid (bget' hb X5.out)
    replace X11 := Lib.hid (bget' hb X11.out)
    replace X13 := Lib.hid (bget' hb X13.out)
    replace X15 := Lib.hid (bget' hb X15.out)
    replace X17 := Lib.hid (bget' hb X17.out)
    replace HT := Lib.hid (TmAt.keep hb hb.size _ _ HT.out)
    replace HQ := Lib.hid (TmAt.keep hb hb.size _ _ HQ.out)
    replace HA := Lib.hid (TmAt.keep hb hb.size _ _ HA.out)
    replace HX := Lib.hid (TmAt.keep hb hb.size _ _ HX.out)
    replace HY := Lib.hid (TmAt.keep hb hb.size _ _ HY.out)
    replace HP := Lib.hid (HP.out.mono hb.size fun b o hlt hr => IntsAt.keep hb _ b o hlt hr)
    rw [HPB.out]
    clear hb
    clear c00 c01 c02 c03 c04
    obtain ⟨c00, c01, c02, c03, c04⟩ := cells5 X13.out
    go_wp2_with fail
    refine (none_any zeroM _ w18 (zeroM_at _ _)).mono ?_
    rintro e w19 ⟨rfl, hb⟩
    replace HV := Lib.hid (HV.out.trans (hb.mono HV.out.size))
    replace X3 := Lib.hid (bget' hb X3.out)
    replace X5 := Lib.hid (bget' hb X5.out)
    replace X11 := Lib.hid (bget' hb X11.out)
    replace X13 := Lib.hid (bget' hb X13.out)
    replace X15 := Lib.hid (bget' hb X15.out)
    replace X17 := Lib.hid (bget' hb X17.out)
    replace HT := Lib.hid (TmAt.keep hb hb.size _ _ HT.out)
    replace HQ := Lib.hid (TmAt.keep hb hb.size _ _ HQ.out)
    replace HA := Lib.hid (TmAt.keep hb hb.size _ _ HA.out)
    replace HX := Lib.hid (TmAt.keep hb hb.size _ _ HX.out)
    replace HY := Lib.hid (TmAt.keep hb hb.size _ _ HY.out)
    replace HP := Lib.hid (HP.out.mono hb.size fun b o hlt hr => IntsAt.keep hb _ b o hlt hr)
    rw [eqM_zero]
    clear hb
    clear c00 c01 c02 c03 c04
    go_wp2_with fail
    refine (known_any _).mono ?_
    rintro e wk ⟨rfl, hb⟩
    replace HV := Lib.hid (HV.out.trans (hb.mono HV.out.size))
    clear hb
    go_wp2
    go_ret
    exact ⟨rfl, HV.out⟩
  | true =>
    have HPB := Lib.hid hpb
    clear hpb
    obtain ⟨c00, c01, c02, c03, c04⟩ := cells5 X3.out
    go_wp2_with fail
    refine (C37 HTB.out _ (Nodes_any t _ w2 HT.out HF.h HF.ok)).mono ?_
    rintro e w3 ⟨rfl, hb⟩
    replace HV := Lib.hid (HV.out.trans (hb.mono HV.out.size))
    replace X3 := Lib.hid (bget' hb X3.out)
    replace X5 := Lib.hid (bget' hb X5.out)
    replace HT := Lib.hid (TmAt.keep hb hb.size _ _ HT.out)
    replace HQ := Lib.hid (TmAt.keep hb hb.size _ _ HQ.out)
    replace HP := Lib.hid (HP.out.mono hb.size fun b o hlt hr => IntsAt.keep hb _ b o hlt hr)
    clear hb
    clear c00 c01 c02 c03 c04
    obtain ⟨c00, c01, c02, c03, c04⟩ := cells5 X3.out
    go_wp2_with fail
    refine (C38 HTB.out _ (Depth_any t _ w3 HT.out HF.h HF.ok)).mono ?_
    rintro e w4 ⟨rfl, hb⟩
    replace HV := Lib.hid (HV.out.trans (hb.mono HV.out.size))
    replace X3 := Lib.hid (bget' hb X3.out)
    replace X5 := Lib.hid (bget' hb X5.out)
    replace HT := Lib.hid (TmAt.keep hb hb.size _ _ HT.out)
    replace HQ := Lib.hid (TmAt.keep hb hb.size _ _ HQ.out)
    replace HP := Lib.hid (HP.out.mono hb.size fun b o hlt hr => IntsAt.keep hb _ b o hlt hr)
    clear hb
    clear c00 c01 c02 c03 c04
    obtain ⟨c00, c01, c02, c03, c04⟩ := cells5 X3.out
    go_wp2_with fail
    refine (At_any t _ (.slice pa path.length pcap) path w4 HT.out HP.out hl HF).mono ?_
    rintro e w5 ⟨he, hb⟩
    replace HV := Lib.hid (HV.out.trans (hb.mono HV.out.size))
    replace X3 := Lib.hid (bget' hb X3.out)
    replace X5 := Lib.hid (bget' hb X5.out)
    replace HT := Lib.hid (TmAt.keep hb hb.size _ _ HT.out)
    replace HQ := Lib.hid (TmAt.keep hb hb.size _ _ HQ.out)
    replace HP := Lib.hid (HP.out.mono hb.size fun b o hlt hr => IntsAt.keep hb _ b o hlt hr)
    obtain ⟨va, rfl, hva⟩ := AtEnd.yes he HTB.out HAT.out
    have HA := Lib.hid hva.at
    clear hva
    obtain ⟨aa, ac, aa', ac', rfl, -⟩ := HA.out.parts
    clear hb
    clear c00 c01 c02 c03 c04
    go_upto_region 6 with fail
    have hb := (Below.refl _ w5).alloc (Nat.le_refl _) (.cells #[.int .i64 r.op, .int .i64 r.n, .string r.text, .slice aa r.kids.length ac, .slice aa' r.pats.length ac'] 32)
    have X11n := Lib.hid (heap_alloc_new w5 (.cells #[.int .i64 r.op, .int .i64 r.n, .string r.text, .slice aa r.kids.length ac, .slice aa' r.pats.length ac'] 32))
    replace HV := Lib.hid (HV.out.trans (hb.mono HV.out.size))
    replace X3 := Lib.hid (bget' hb X3.out)
    replace X5 := Lib.hid (bget' hb X5.out)
    replace HT := Lib.hid (TmAt.keep hb hb.size _ _ HT.out)
    replace HQ := Lib.hid (TmAt.keep hb hb.size _ _ HQ.out)
    replace HA := Lib.hid (TmAt.keep hb hb.size _ _ HA.out)
    replace HP := Lib.hid (HP.out.mono hb.size fun b o hlt hr => IntsAt.keep hb _ b o hlt hr)
    clear hb
    generalize (w5.alloc (.cells #[.int .i64 r.op, .int .i64 r.n, .string r.text, .slice aa r.kids.length ac, .slice aa' r.pats.length ac'] 32)) = w6 at *
    have X11 := X11n
    clear X11n
    obtain ⟨c00, c01, c02, c03, c04⟩ := cells5 X3.out
    obtain ⟨c10, c11, c12, c13, c14⟩ := cells5 X5.out
    go_wp2_with fail
    refine (Put_any t q _ _ (.slice pa path.length pcap) path w6 HT.out HQ.out HP.out hl HF HG).mono ?_
    rintro e w7 ⟨he, hb⟩
    replace HV := Lib.hid (HV.out.trans (hb.mono HV.out.size))
    replace X3 := Lib.hid (bget' hb X3.out)
    replace X5 := Lib.hid (bget' hb X5.out)
    replace X11 := Lib.hid (bget' hb X11.out)
    replace HT := Lib.hid (TmAt.keep hb hb.size _ _ HT.out)
    replace HQ := Lib.hid (TmAt.keep hb hb.size _ _ HQ.out)
    replace HA := Lib.hid (TmAt.keep hb hb.size _ _ HA.out)
    replace HP := Lib.hid (HP.out.mono hb.size fun b o hlt hr => IntsAt.keep hb _ b o hlt hr)
    obtain ⟨vp, rfl, hvp⟩ := PutEnd.yes he (by rw [HTB.out, HAT.out, HQB.out]; rfl) HPB.out
    have HU := Lib.hid hvp
    clear hvp
    obtain ⟨ua, uc, ua', uc', rfl, -⟩ := HU.out.parts
    clear hb
    clear c00 c01 c02 c03 c04 c10 c11 c12 c13 c14
    go_upto_region 7 with fail
    have hb := (Below.refl _ w7).alloc (Nat.le_refl _) (.cells #[.int .i64 (putM t path q).op, .int .i64 (putM t path q).n, .string (putM t path q).text, .slice ua (putM t path q).kids.length uc, .slice ua' (putM t path q).pats.length uc'] 32)
    have X13n := Lib.hid (heap_alloc_new w7 (.cells #[.int .i64 (putM t path q).op, .int .i64 (putM t path q).n, .string (putM t path q).text, .slice ua (putM t path q).kids.length uc, .slice ua' (putM t path q).pats.length uc'] 32))
    replace HV := Lib.hid (HV.out.trans (hb.mono HV.out.size))
    replace X3 := Lib.hid (bget' hb X3.out)
    replace X5 := Lib.hid (bget' hb X5.out)
    replace X11 := Lib.hid (bget' hb X11.out)
    replace HT := Lib.hid (TmAt.keep hb hb.size _ _ HT.out)
    replace HQ := Lib.hid (TmAt.keep hb hb.size _ _ HQ.out)
    replace HA := Lib.hid (TmAt.keep hb hb.size _ _ HA.out)
    replace HU := Lib.hid (TmAt.keep hb hb.size _ _ HU.out)
    replace HP := Lib.hid (HP.out.mono hb.size fun b o hlt hr => IntsAt.keep hb _ b o hlt hr)
    clear hb
    generalize (w7.alloc (.cells #[.int .i64 (putM t path q).op, .int .i64 (putM t path q).n, .string (putM t path q).text, .slice ua (putM t path q).kids.length uc, .slice ua' (putM t path q).pats.length uc'] 32)) = w8 at *
    have X13 := X13n
    clear X13n
    obtain ⟨c00, c01, c02, c03, c04⟩ := cells5 X3.out
    go_wp2_with fail
    refine (C30 t w8 HT.out HF.ok).mono ?_
    rintro e w9 ⟨rfl, hb⟩
    replace HV := Lib.hid (HV.out.trans (hb.mono HV.out.size))
    replace X3 := Lib.hid (bget' hb X3.out)
    replace X5 := Lib.hid (bget' hb X5.out)
    replace X11 := Lib.hid (bget' hb X11.out)
    replace X13 := Lib.hid (bget' hb X13.out)
    replace HT := Lib.hid (TmAt.keep hb hb.size _ _ HT.out)
    replace HQ := Lib.hid (TmAt.keep hb hb.size _ _ HQ.out)
    replace HA := Lib.hid (TmAt.keep hb hb.size _ _ HA.out)
    replace HU := Lib.hid (TmAt.keep hb hb.size _ _ HU.out)
    replace HP := Lib.hid (HP.out.mono hb.size fun b o hlt hr => IntsAt.keep hb _ b o hlt hr)
    rw [HTB.out]
    clear hb
    clear c00 c01 c02 c03 c04
    obtain ⟨c00, c01, c02, c03, c04⟩ := cells5 X3.out
    go_wp2_with fail
    refine (refNodes_any t _ w9 HT.out HND).mono ?_
    rintro e w10 ⟨rfl, hb⟩
    replace HV := Lib.hid (HV.out.trans (hb.mono HV.out.size))
    replace X3 := Lib.hid (bget' hb X3.out)
    replace X5 := Lib.hid (bget' hb X5.out)
    replace X11 := Lib.hid (bget' hb X11.out)
    replace X13 := Lib.hid (bget' hb X13.out)
    replace HT := Lib.hid (TmAt.keep hb hb.size _ _ HT.out)
    replace HQ := Lib.hid (TmAt.keep hb hb.size _ _ HQ.out)
    replace HA := Lib.hid (TmAt.keep hb hb.size _ _ HA.out)
    replace HU := Lib.hid (TmAt.keep hb hb.size _ _ HU.out)
    replace HP := Lib.hid (HP.out.mono hb.size fun b o hlt hr => IntsAt.keep hb _ b o hlt hr)
    clear hb
    clear c00 c01 c02 c03 c04
    obtain ⟨c00, c01, c02, c03, c04⟩ := cells5 X3.out
    go_wp2_with fail
    refine (refDepth_any t _ w10 HT.out HDP).mono ?_
    rintro e w11 ⟨rfl, hb⟩
    replace HV := Lib.hid (HV.out.trans (hb.mono HV.out.size))
    replace X3 := Lib.hid (bget' hb X3.out)
    replace X5 := Lib.hid (bget' hb X5.out)
    replace X11 := Lib.hid (bget' hb X11.out)
    replace X13 := Lib.hid (bget' hb X13.out)
    replace HT := Lib.hid (TmAt.keep hb hb.size _ _ HT.out)
    replace HQ := Lib.hid (TmAt.keep hb hb.size _ _ HQ.out)
    replace HA := Lib.hid (TmAt.keep hb hb.size _ _ HA.out)
    replace HU := Lib.hid (TmAt.keep hb hb.size _ _ HU.out)
    replace HP := Lib.hid (HP.out.mono hb.size fun b o hlt hr => IntsAt.keep hb _ b o hlt hr)
    clear hb
    clear c00 c01 c02 c03 c04
    obtain ⟨c00, c01, c02, c03, c04⟩ := cells5 X3.out
    go_wp2_with fail
    refine (refAt_any t _ (.slice pa path.length pcap) path w11 HT.out HP.out hl).mono ?_
    rintro e w12 ⟨he, hb⟩
    replace HV := Lib.hid (HV.out.trans (hb.mono HV.out.size))
    replace X3 := Lib.hid (bget' hb X3.out)
    replace X5 := Lib.hid (bget' hb X5.out)
    replace X11 := Lib.hid (bget' hb X11.out)
    replace X13 := Lib.hid (bget' hb X13.out)
    replace HT := Lib.hid (TmAt.keep hb hb.size _ _ HT.out)
    replace HQ := Lib.hid (TmAt.keep hb hb.size _ _ HQ.out)
    replace HA := Lib.hid (TmAt.keep hb hb.size _ _ HA.out)
    replace HU := Lib.hid (TmAt.keep hb hb.size _ _ HU.out)
    replace HP := Lib.hid (HP.out.mono hb.size fun b o hlt hr => IntsAt.keep hb _ b o hlt hr)
    obtain ⟨vx, rfl, hvx⟩ := RefAtEnd.yes he HAT.out
    have HX := Lib.hid (TmAt.keep (Below.refl _ _) hb.size _ _ hvx)
    clear hvx
    obtain ⟨xa, xc, xa', xc', rfl, -⟩ := HX.out.parts
    clear hb
    clear c00 c01 c02 c03 c04
    go_upto_region 12 with fail
    have hb := (Below.refl _ w12).alloc (Nat.le_refl _) (.cells #[.int .i64 r.op, .int .i64 r.n, .string r.text, .slice xa r.kids.length xc, .slice xa' r.pats.length xc'] 32)
    have X15n := Lib.hid (heap_alloc_new w12 (.cells #[.int .i64 r.op, .int .i64 r.n, .string r.text, .slice xa r.kids.length xc, .slice xa' r.pats.length xc'] 32))
    replace HV := Lib.hid (HV.out.trans (hb.mono HV.out.size))
    replace X3 := Lib.hid (bget' hb X3.out)
    replace X5 := Lib.hid (bget' hb X5.out)
    replace X11 := Lib.hid (bget' hb X11.out)
    replace X13 := Lib.hid (bget' hb X13.out)
    replace HT := Lib.hid (TmAt.keep hb hb.size _ _ HT.out)
    replace HQ := Lib.hid (TmAt.keep hb hb.size _ _ HQ.out)
    replace HA := Lib.hid (TmAt.keep hb hb.size _ _ HA.out)
    replace HU := Lib.hid (TmAt.keep hb hb.size _ _ HU.out)
    replace HX := Lib.hid (TmAt.keep hb hb.size _ _ HX.out)
    replace HP := Lib.hid (HP.out.mono hb.size fun b o hlt hr => IntsAt.keep hb _ b o hlt hr)
    clear hb
    generalize (w12.alloc (.cells #[.int .i64 r.op, .int .i64 r.n, .string r.text, .slice xa r.kids.length xc, .slice xa' r.pats.length xc'] 32)) = w13 at *
    have X15 := X15n
    clear X15n
    obtain ⟨c00, c01, c02, c03, c04⟩ := cells5 X11.out
    obtain ⟨c10, c11, c12, c13, c14⟩ := cells5 X15.out
    go_wp2_with fail
    refine (Same_any r r _ _ w13 HA.out HX.out).mono ?_
    rintro e w14 ⟨rfl, hb⟩
    replace HV := Lib.hid (HV.out.trans (hb.mono HV.out.size))
    replace X3 := Lib.hid (bget' hb X3.out)
    replace X5 := Lib.hid (bget' hb X5.out)
    replace X11 := Lib.hid (bget' hb X11.out)
    replace X13 := Lib.hid (bget' hb X13.out)
    replace X15 := Lib.hid (bget' hb X15.out)
    replace HT := Lib.hid (TmAt.keep hb hb.size _ _ HT.out)
    replace HQ := Lib.hid (TmAt.keep hb hb.size _ _ HQ.out)
    replace HA := Lib.hid (TmAt.keep hb hb.size _ _ HA.out)
    replace HU := Lib.hid (TmAt.keep hb hb.size _ _ HU.out)
    replace HX := Lib.hid (TmAt.keep hb hb.size _ _ HX.out)
    replace HP := Lib.hid (HP.out.mono hb.size fun b o hlt hr => IntsAt.keep hb _ b o hlt hr)
    rw [eqM_refl]
    clear hb
    clear c00 c01 c02 c03 c04 c10 c11 c12 c13 c14
    obtain ⟨c00, c01, c02, c03, c04⟩ := cells5 X5.out
    go_wp2_with fail
    refine (C30 q w14 HQ.out HG.ok).mono ?_
    rintro e w15 ⟨rfl, hb⟩
    replace HV := Lib.hid (HV.out.trans (hb.mono HV.out.size))
    replace X3 := Lib.hid (bget' hb X3.out)
    replace X5 := Lib.hid (bget' hb X5.out)
    replace X11 := Lib.hid (bget' hb X11.out)
    replace X13 := Lib.hid (bget' hb X13.out)
    replace X15 := Lib.hid (bget' hb X15.out)
    replace HT := Lib.hid (TmAt.keep hb hb.size _ _ HT.out)
    replace HQ := Lib.hid (TmAt.keep hb hb.size _ _ HQ.out)
    replace HA := Lib.hid (TmAt.keep hb hb.size _ _ HA.out)
    replace HU := Lib.hid (TmAt.keep hb hb.size _ _ HU.out)
    replace HX := Lib.hid (TmAt.keep hb hb.size _ _ HX.out)
    replace HP := Lib.hid (HP.out.mono hb.size fun b o hlt hr => IntsAt.keep hb _ b o hlt hr)
    rw [HQB.out]
    clear hb
    clear c00 c01 c02 c03 c04
    obtain ⟨c00, c01, c02, c03, c04⟩ := cells5 X3.out
    obtain ⟨c10, c11, c12, c13, c14⟩ := cells5 X5.out
    go_wp2_with fail
    refine (refPut_any q w15.heap.size path t _ _ (.slice pa path.length pcap) w15 (Nat.le_refl _) HT.out HQ.out HP.out hl HF.len (by rw [HAT.out]; rfl)).mono ?_
    rintro e w16 ⟨⟨vy, rfl, hvy⟩, hb⟩
    replace HV := Lib.hid (HV.out.trans (hb.mono HV.out.size))
    replace X3 := Lib.hid (bget' hb X3.out)
    replace X5 := Lib.hid (bget' hb X5.out)
    replace X11 := Lib.hid (bget' hb X11.out)
    replace X13 := Lib.hid (bget' hb X13.out)
    replace X15 := Lib.hid (bget' hb X15.out)
    replace HT := Lib.hid (TmAt.keep hb hb.size _ _ HT.out)
    replace HQ := Lib.hid (TmAt.keep hb hb.size _ _ HQ.out)
    replace HA := Lib.hid (TmAt.keep hb hb.size _ _ HA.out)
    replace HU := Lib.hid (TmAt.keep hb hb.size _ _ HU.out)
    replace HX := Lib.hid (TmAt.keep hb hb.size _ _ HX.out)
    replace HP := Lib.hid (HP.out.mono hb.size fun b o hlt hr => IntsAt.keep hb _ b o hlt hr)
    have HY := Lib.hid hvy.at
    clear hvy
    obtain ⟨ya, yc, ya', yc', rfl, -⟩ := HY.out.parts
    clear hb
    clear c00 c01 c02 c03 c04 c10 c11 c12 c13 c14
    go_upto_region 19 with fail
    have hb := (Below.refl _ w16).alloc (Nat.le_refl _) (.cells #[.int .i64 (putM t path q).op, .int .i64 (putM t path q).n, .string (putM t path q).text, .slice ya (putM t path q).kids.length yc, .slice ya' (putM t path q).pats.length yc'] 32)
    have X17n := Lib.hid (heap_alloc_new w16 (.cells #[.int .i64 (putM t path q).op, .int .i64 (putM t path q).n, .string (putM t path q).text, .slice ya (putM t path q).kids.length yc, .slice ya' (putM t path q).pats.length yc'] 32))
    replace HV := Lib.hid (HV.out.trans (hb.mono HV.out.size))
    replace X3 := Lib.hid (bget' hb X3.out)
    replace X5 := Lib.hid (bget' hb X5.out)
    replace X11 := Lib.hid (bget' hb X11.out)
    replace X13 := Lib.hid (bget' hb X13.out)
    replace X15 := Lib.hid (bget' hb X15.out)
    replace HT := Lib.hid (TmAt.keep hb hb.size _ _ HT.out)
    replace HQ := Lib.hid (TmAt.keep hb hb.size _ _ HQ.out)
    replace HA := Lib.hid (TmAt.keep hb hb.size _ _ HA.out)
    replace HU := Lib.hid (TmAt.keep hb hb.size _ _ HU.out)
    replace HX := Lib.hid (TmAt.keep hb hb.size _ _ HX.out)
    replace HY := Lib.hid (TmAt.keep hb hb.size _ _ HY.out)
    replace HP := Lib.hid (HP.out.mono hb.size fun b o hlt hr => IntsAt.keep hb _ b o hlt hr)
    clear hb
    generalize (w16.alloc (.cells #[.int .i64 (putM t path q).op, .int .i64 (putM t path q).n, .string (putM t path q).text, .slice ya (putM t path q).kids.length yc, .slice ya' (putM t path q).pats.length yc'] 32)) = w17 at *
    have X17 := X17n
    clear X17n
    obtain ⟨c00, c01, c02, c03, c04⟩ := cells5 X17.out
    go_wp2_with fail
    refine (C30 (putM t path q) w17 HY.out HPO).mono ?_
    rintro e w18 ⟨rfl, hb⟩
    replace HV := Lib.hid (HV.out.trans (hb.mono HV.out.size))
    replace X3 := Lib.hid (bget' hb X3.out)
    replace X5 := Lib.hid (bget' hb X5.out)
    replace X11 := Lib.hid (bget' hb X11.out)
    replace X13 := Lib.hid (bget' hb X13.out)
    replace X15 := Lib.hid (bget' hb X15.out)
    replace X17 := Lib.hid (bget' hb X17.out)
    replace HT := Lib.hid (TmAt.keep hb hb.size _ _ HT.out)
    replace HQ := Lib.hid (TmAt.keep hb hb.size _ _ HQ.out)
    replace HA := Lib.hid (TmAt.keep hb hb.size _ _ HA.out)
    replace HU := Lib.hid (TmAt.keep hb hb.size _ _ HU.out)
    replace HX := Lib.hid (TmAt.keep hb hb.size _ _ HX.out)
    replace HY := Lib.hid (TmAt.keep hb hb.size _ _ HY.out)
    replace HP := Lib.hid (HP.out.mono hb.size fun b o hlt hr => IntsAt.keep hb _ b o hlt hr)
    rw [HPB.out]
    clear hb
    clear c00 c01 c02 c03 c04
    obtain ⟨c00, c01, c02, c03, c04⟩ := cells5 X13.out
    obtain ⟨c10, c11, c12, c13, c14⟩ := cells5 X17.out
    go_wp2_with fail
    refine (Same_any (putM t path q) (putM t path q) _ _ w18 HU.out HY.out).mono ?_
    rintro e w19 ⟨rfl, hb⟩
    replace HV := Lib.hid (HV.out.trans (hb.mono HV.out.size))
    replace X3 := Lib.hid (bget' hb X3.out)
    replace X5 := Lib.hid (bget' hb X5.out)
    replace X11 := Lib.hid (bget' hb X11.out)
    replace X13 := Lib.hid (bget' hb X13.out)
    replace X15 := Lib.hid (bget' hb X15.out)
    replace X17 := Lib.hid (bget' hb X17.out)
    replace HT := Lib.hid (TmAt.keep hb hb.size _ _ HT.out)
    replace HQ := Lib.hid (TmAt.keep hb hb.size _ _ HQ.out)
    replace HA := Lib.hid (TmAt.keep hb hb.size _ _ HA.out)
    replace HU := Lib.hid (TmAt.keep hb hb.size _ _ HU.out)
    replace HX := Lib.hid (TmAt.keep hb hb.size _ _ HX.out)
    replace HY := Lib.hid (TmAt.keep hb hb.size _ _ HY.out)
    replace HP := Lib.hid (HP.out.mono hb.size fun b o hlt hr => IntsAt.keep hb _ b o hlt hr)
    rw [eqM_refl]
    clear hb
    clear c00 c01 c02 c03 c04 c10 c11 c12 c13 c14
    go_wp2_with fail
    refine (known_any _).mono ?_
    rintro e wk ⟨rfl, hb⟩
    replace HV := Lib.hid (HV.out.trans (hb.mono HV.out.size))
    clear hb
    go_wp2
    go_ret
    exact ⟨rfl, HV.out⟩

end Go.Proofs.YtjpahjfjpkbcnaaGreat

/- Parts that are put: where they are found, and how many nodes there are. -/
namespace Go.Proofs.YtjpahjfjpkbcnaaGreat
open Go.Proofs Go.RowKit

theorem goM_of : ∀ (xs : List (Int × Tm)) (n : Nat), n + xs.length ≤ 60 → (∀ x ∈ xs, x.1 ≤ 14 ∧ x.2.fits = true) → goM xs n = true
  | [], _, _, _ => rfl
  | x :: xs, n, h, hx => by
    unfold goM
    rw [List.length_cons] at h
    have h1 := hx x List.mem_cons_self
    rw [decide_eq_true (by omega), decide_eq_true h1.1, h1.2, goM_of xs (n + 1) (by omega) fun y hy => hx y (List.mem_cons_of_mem _ hy)]
    rfl
mutual
theorem partsM_shift : ∀ (T : Tm) (d c : Int), partsM (d + c) T = (partsM d T).map fun x => (x.1 + c, x.2)
  | .mk op n text kids pats, d, c => by
    unfold partsM
    rw [List.map_cons, ← partssM_shift kids (d + 1) c, show d + c + 1 = d + 1 + c by omega]
theorem partssM_shift : ∀ (ts : List Tm) (d c : Int), partssM (d + c) ts = (partssM d ts).map fun x => (x.1 + c, x.2)
  | [], _, _ => by unfold partssM; rfl
  | t :: ts, d, c => by
    unfold partssM
    rw [List.map_append, ← partsM_shift t d c, ← partssM_shift ts d c]
end
theorem partss_mem : ∀ (ts : List Tm) (d : Int) (k : Nat) (hk : k < ts.length), (∀ x ∈ partsM d ts[k], x ∈ partssM d ts) ∧ (partsM d ts[k]).length ≤ (partssM d ts).length
  | [], _, _, hk => absurd hk (by simp)
  | t :: ts, d, 0, _ => by
    unfold partssM
    exact ⟨fun x hx => List.mem_append_left _ hx, by rw [List.length_append]; simp⟩
  | t :: ts, d, k + 1, hk => by
    obtain ⟨h1, h2⟩ := partss_mem ts d k (by simpa using hk)
    unfold partssM
    exact ⟨fun x hx => List.mem_append_right _ (h1 x (by simpa using hx)), by rw [List.length_append]; simp only [List.getElem_cons_succ]; omega⟩
theorem termB_kid {T : Tm} (h : termB T = true) (k : Nat) (hk : k < T.kids.length) : termB T.kids[k] = true := by
  have hl := goM_len _ 0 h (by omega)
  have hd := goM_depth _ 0 h
  have hf := goM_all _ 0 h
  cases T with
  | mk op n text kids pats =>
  change k < kids.length at hk
  show termB (kids[k]'hk) = true
  obtain ⟨h1, h2⟩ := partss_mem kids 2 k hk
  have e : partsM 2 kids[k] = (partsM 1 kids[k]).map fun x => (x.1 + 1, x.2) := partsM_shift kids[k] 1 1
  unfold partsM at hl hd hf
  rw [show (1 : Int) + 1 = 2 from rfl] at hl hd hf
  rw [List.length_cons] at hl
  have hlen : (partsM 2 kids[k]).length = (partsM 1 kids[k]).length := by rw [e, List.length_map]
  refine goM_of _ 0 (by omega) fun x hx => ?_
  have hm : (x.1 + 1, x.2) ∈ partssM 2 kids := h1 _ (by rw [e]; exact List.mem_map_of_mem (f := fun x => (x.1 + 1, x.2)) hx)
  have h3 := hd _ (List.mem_cons_of_mem _ hm)
  have h4 := hf _ (List.mem_cons_of_mem _ hm)
  exact ⟨by simp only at h3; omega, h4⟩
theorem termB_at : ∀ (path : List Int) (T q : Tm), termB T = true → atM T path = some q → termB q = true
  | [], T, q, h, he => by cases he; exact h
  | k :: ks, T, q, h, he => by
    unfold atM at he
    split at he
    · rename_i hk
      exact termB_at ks _ q (termB_kid h _ hk.2) he
    · cases he
theorem atM_mk (op n : Int) (text : ByteArray) (kids : List Tm) (pats : List Pt) (k : Int) (ks : List Int) : atM (.mk op n text kids pats) (k :: ks) = if h : 0 ≤ k ∧ k.toNat < kids.length then atM (kids[k.toNat]'h.2) ks else none := rfl
theorem putM_mk (op n : Int) (text : ByteArray) (kids : List Tm) (pats : List Pt) (k : Int) (ks : List Int) (q : Tm) : putM (.mk op n text kids pats) (k :: ks) q = if h : 0 ≤ k ∧ k.toNat < kids.length then .mk op n text (kids.set k.toNat (putM (kids[k.toNat]'h.2) ks q)) pats else .mk op n text kids pats := rfl
theorem putM_nil (t q : Tm) : putM t [] q = q := by cases t; rfl
theorem atM_nil (t : Tm) : atM t [] = some t := by cases t; rfl

theorem at_put (q : Tm) : ∀ (path : List Int) (t r : Tm), atM t path = some r → atM (putM t path q) path = some q
  | [], t, _, _ => by rw [putM_nil, atM_nil]
  | k :: ks, .mk op n text kids pats, r, h => by
    rw [atM_mk] at h
    split at h
    · rename_i hk
      rw [putM_mk, dif_pos hk, atM_mk, dif_pos (by rw [List.length_set]; exact hk), List.getElem_set_self]
      exact at_put q ks _ r h
    · cases h
theorem put_put (q : Tm) : ∀ (path : List Int) (t r : Tm), atM t path = some r → putM (putM t path q) path r = t
  | [], t, r, h => by
    rw [atM_nil] at h
    cases h
    rw [putM_nil]
  | k :: ks, .mk op n text kids pats, r, h => by
    rw [atM_mk] at h
    split at h
    · rename_i hk
      rw [putM_mk, dif_pos hk, putM_mk, dif_pos (by rw [List.length_set]; exact hk), List.getElem_set_self, put_put q ks _ r h, List.set_set, List.set_getElem_self]
    · cases h
theorem nds_set : ∀ (ts : List Tm) (k : Nat) (hk : k < ts.length) (X : Tm), ndsM (ts.set k X) + ndM (ts[k]'hk) = ndsM ts + ndM X
  | [], _, hk, _ => absurd hk (by simp)
  | t :: ts, 0, _, X => by
    show ndsM (X :: ts) + ndM t = _
    rw [ndsM_cons, ndsM_cons]
    omega
  | t :: ts, k + 1, hk, X => by
    have := nds_set ts k (by simpa using hk) X
    show ndsM (t :: ts.set k X) + ndM (ts[k]'(by simpa using hk)) = _
    rw [ndsM_cons, ndsM_cons]
    omega
theorem ndM_mk (op n : Int) (text : ByteArray) (kids : List Tm) (pats : List Pt) : ndM (.mk op n text kids pats) = 1 + ndsM kids := by
  conv => lhs; unfold ndM
theorem nd_put (q : Tm) : ∀ (path : List Int) (t r : Tm), atM t path = some r → ndM (putM t path q) + ndM r = ndM t + ndM q
  | [], t, r, h => by
    rw [atM_nil] at h
    cases h
    rw [putM_nil]
    omega
  | k :: ks, .mk op n text kids pats, r, h => by
    rw [atM_mk] at h
    split at h
    · rename_i hk
      rw [putM_mk, dif_pos hk]
      have ih := nd_put q ks _ r h
      have h2 := nds_set kids k.toNat hk.2 (putM (kids[k.toNat]'hk.2) ks q)
      rw [ndM_mk, ndM_mk]
      omega
    · cases h
theorem termB_nd {t : Tm} (h : termB t = true) : ndM t ≤ 60 := by
  have hl := goM_len _ 0 h (by omega)
  have e := nodesM_eq t
  unfold nodesM at e
  omega
end Go.Proofs.YtjpahjfjpkbcnaaGreat
