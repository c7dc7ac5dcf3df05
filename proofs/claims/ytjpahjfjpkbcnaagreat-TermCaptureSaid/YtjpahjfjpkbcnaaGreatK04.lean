/- Contracts of the program's functions. -/
import Derived.Test.YtjpahjfjpkbcnaaGreatK03
import Derived.Test.YtjpahjfjpkbcnaaGreatK02
import Derived.Test.YtjpahjfjpkbcnaaGreatG09
import Derived.Test.YtjpahjfjpkbcnaaGreatG10
import Derived.Test.YtjpahjfjpkbcnaaGreatG11
import Derived.ChangeShapes

/- TermCapture: its walk. -/
namespace Go.Proofs.YtjpahjfjpkbcnaaGreat
open Go.Proofs Go.RowKit

theorem SubstEnd.long {nm : ByteArray} {by' T : Tm} {w w' : World} {e : Ending} (h : SubstEnd nm by' T w e w') (hn : (termB T && nameB nm && termB by') = true) (hb : termB (subF nm by' (heightM T) T) = false) : e = .returned (.tuple #[zeroV, .int .i64 3]) := by
  unfold SubstEnd at h
  rw [if_pos hn, hb, if_neg (by simp)] at h
  exact h
theorem SubstEnd.yes {nm : ByteArray} {by' T : Tm} {w w' : World} {e : Ending} (h : SubstEnd nm by' T w e w') (hn : (termB T && nameB nm && termB by') = true) (hb : termB (subF nm by' (heightM T) T) = true) : ∃ nv, e = .returned (.tuple #[nv, .int .i64 0]) ∧ TmAt w'.heap.size w' (subF nm by' (heightM T) T) nv := by
  unfold SubstEnd at h
  rw [if_pos hn, if_pos hb] at h
  obtain ⟨nv, h1, h2⟩ := h
  exact ⟨nv, h1, TmIn.to (fun b h => h.2) _ _ h2⟩
/-- A term without Kids in which nothing is free. -/
structure LeafM (L : Tm) : Prop where
  free : freeL L = []
  fits : L.fits = true
  kids : L.kids = []
  ok : termB L = true
  fit : Fit L
theorem leafM (op n : Int) (h : (Tm.mk op n ⟨#[]⟩ [] []).fits = true) (h4 : op ≠ 4) : LeafM (.mk op n ⟨#[]⟩ [] []) := by
  refine ⟨?_, h, rfl, goM_of _ 0 ?_ fun x hx => ?_, ⟨?_, ?_, ?_⟩⟩
  · have e : frees (fun _ => false) (.mk op n ⟨#[]⟩ [] []) = [] := by
      conv => lhs; unfold frees
      simp [h4, freesK]
    unfold freeL
    rw [e]
    have e2 : dd [] = [] := rfl
    rw [e2]
    simp
  · rw [partsM_eq]
    show 0 + (_ :: partssM 2 []).length ≤ 60
    unfold partssM
    simp
  · rw [partsM_eq] at hx
    change x ∈ (1, _) :: partssM (1 + 1) [] at hx
    unfold partssM at hx
    rw [List.mem_singleton] at hx
    subst hx
    exact ⟨by show (1 : Int) ≤ 14; omega, h⟩
  · rw [height_eq]; show heightsM [] + 1 ≤ 1000; unfold heightsM; omega
  · unfold okM oksM heightsP; simp
  · unfold lensM lenssM lenssP; simp
theorem oneM (n : Int) (h1 : -1000 < n) (h2 : n < 1000) : LeafM (.mk 1 n ⟨#[]⟩ [] []) := leafM 1 n (by
  have hz : (⟨#[]⟩ : ByteArray).toList.isEmpty = true := by rw [ByteArray.toList_eq]; rfl
  show (kidsFitB 1 0 0 && numberFitsB 1 n && textFitsB 1 ⟨#[]⟩ && patsFitB 1 []) = true
  have e1 : kidsFitB 1 0 0 = true := by decide
  have e2 : numberFitsB 1 n = true := by unfold numberFitsB integerB; rw [if_pos rfl, decide_eq_true (by omega), decide_eq_true (by omega)]; rfl
  have e3 : textFitsB 1 ⟨#[]⟩ = true := by unfold textFitsB; rw [if_neg (by decide), if_neg (by decide)]; exact hz
  have e4 : patsFitB 1 [] = true := by decide
  rw [e1, e2, e3, e4]; rfl) (by decide)
theorem twoM : LeafM (.mk 3 0 ⟨#[]⟩ [] []) := leafM 3 0 (by
  have hz : (⟨#[]⟩ : ByteArray).toList.isEmpty = true := by rw [ByteArray.toList_eq]; rfl
  show (kidsFitB 3 0 0 && numberFitsB 3 0 && textFitsB 3 ⟨#[]⟩ && patsFitB 3 []) = true
  have e1 : kidsFitB 3 0 0 = true := by decide
  have e2 : numberFitsB 3 0 = true := by decide
  have e3 : textFitsB 3 ⟨#[]⟩ = true := by unfold textFitsB; rw [if_neg (by decide), if_neg (by decide)]; exact hz
  have e4 : patsFitB 3 [] = true := by decide
  rw [e1, e2, e3, e4]; rfl) (by decide)
theorem leaf_at (n₀ : Nat) (w : World) (op n : Int) : TmAt n₀ w (.mk op n ⟨#[]⟩ [] []) (.agg #[.int .i64 op, .int .i64 n, .string ⟨#[]⟩, .slice none 0 0, .slice none 0 0]) := by
  unfold TmAt
  exact ⟨_, _, rfl, Nat.zero_le _, .inl ⟨rfl, none, 0, rfl, Nat.zero_le _⟩, .inl ⟨rfl, none, 0, rfl, Nat.zero_le _⟩⟩
theorem sub_leaf {nm : ByteArray} {L T : Tm} (hL : LeafM L) (hT : termB T = true) (hf : Fit T) : subF nm L (heightM T) T = repM nm L T := subF_rep nm L hL.free _ T 1 (Nat.le_refl _) (termB_sub hT hf).ren.ok (goM_all _ 0 hT)
theorem rep_fit {nm : ByteArray} {L T : Tm} (hL : LeafM L) (hT : termB T = true) (hf : Fit T) : Fit (repM nm L T) := by
  obtain ⟨i1, i2, i3⟩ := subF_fit nm L hL.fit (heightM T) T (Nat.le_refl _) (termB_sub hT hf)
  rw [sub_leaf hL hT hf] at i1 i2 i3
  have h1 := termB_height hT
  have h2 : heightM L = 1 := by rw [height_eq, hL.kids]; unfold heightsM; rfl
  exact ⟨by omega, i2, i3⟩
theorem SubstEnd.leaf {nm : ByteArray} {L T : Tm} {w w' : World} {e : Ending} (h : SubstEnd nm L T w e w') (hL : LeafM L) (hT : termB T = true) (hf : Fit T) (hnm : nameB nm = true) : ∃ nv, e = .returned (.tuple #[nv, .int .i64 0]) ∧ TmAt w'.heap.size w' (repM nm L T) nv := by
  have := SubstEnd.yes h (by rw [hT, hnm, hL.ok]; rfl) (by rw [sub_leaf hL hT hf]; exact termB_rep nm L T hL.fits hL.kids hT)
  rwa [sub_leaf hL hT hf] at this
theorem hasB_free (T : Tm) (s : ByteArray) : hasB (freeL T) s = true ↔ FVs T s.toList := by
  rw [← mem_freeL]
  unfold hasB inL
  rfl
theorem NdP_of {T : Tm} (h : termB T = true) : NdP 1 T := fun x hx p hp => ((patB_iff p).1 ((fits_pats (goM_all _ 0 h x hx)).2 p hp)).2.2
theorem free_mem {T : Tm} {k : Nat} (h : k < (freeL T).length) : FVs T (freeL T)[k].toList := (mem_freeL T _).1 (mem_inL (List.getElem_mem h))
theorem freeL_few {T : Tm} (h : termB T = true) : (freeL T).length ≤ 60 := by
  have := freeL_len T
  have := frees_len T (fun _ => false) 1
  have := goM_len _ 0 h (by omega)
  omega
theorem subF_sub_frees (nm : ByteArray) (by' T : Tm) (hT : termB T = true) (hb : termB by' = true) (hf : Fit T) (x : List UInt8) : FVs (subF nm by' (heightM T) T) x ↔ (FVs T x ∧ x ≠ nm.toList) ∨ (FVs T nm.toList ∧ FVs by' x) :=
  subF_frees nm by' (by have := freeL_few hb; omega) (heightM T) T (Nat.le_refl _) (termB_sub hT hf) (NdP_of hT) x

set_option maxHeartbeats 32000000 in
set_option maxRecDepth 100000 in
theorem capture_any (t : Tm) (s : ByteArray) (q : Tm) (o : ByteArray) (n : Int) (v qv : Value) (w : World) (ht : TmAt w.heap.size w t v) (hs : s.size ≤ maxLen) (hq : TmAt w.heap.size w q qv) (ho : o.size ≤ maxLen) :
    Calls Tryz.prog 10 #[v, .string s, qv, .string o, .int .i64 n] w fun e w' => e = .returned (.bool true) ∧ Below w.heap.size w w' := by
  obtain ⟨a, cap, a', cap', rfl, -⟩ := ht.parts
  obtain ⟨b, bcap, b', bcap', rfl, -⟩ := hq.parts
  obtain ⟨W, hW, hb, hsz, hx5, hx7⟩ := two_boxes w #[.int .i64 t.op, .int .i64 t.n, .string t.text, .slice a t.kids.length cap, .slice a' t.pats.length cap'] #[.int .i64 q.op, .int .i64 q.n, .string q.text, .slice b q.kids.length bcap, .slice b' q.pats.length bcap'] 32
  have HT := Lib.hid ht; have HQ := Lib.hid hq
  replace HT := Lib.hid (TmAt.keep hb hb.size _ _ HT.out)
  replace HQ := Lib.hid (TmAt.keep hb hb.size _ _ HQ.out)
  have X5 := Lib.hid hx5; have X7 := Lib.hid hx7; have HV := Lib.hid hb
  unfold maxLen at hs ho
  clear ht hq hb hx5 hx7 hsz
  go_enter Tryz.func10, Tryz.ntmps10
  go_upto_region 1 with fail
  rw [← hW]
  clear hW
  obtain ⟨c00, c01, c02, c03, c04⟩ := cells5 X5.out
  go_wp2_with fail
  refine (SmallTerm_any t _ W HT.out).mono ?_
  rintro e w1 ⟨rfl, hb⟩
  replace HV := Lib.hid (HV.out.trans (hb.mono HV.out.size))
  replace X5 := Lib.hid (bget' hb X5.out)
  replace X7 := Lib.hid (bget' hb X7.out)
  replace HT := Lib.hid (TmAt.keep hb hb.size _ _ HT.out)
  replace HQ := Lib.hid (TmAt.keep hb hb.size _ _ HQ.out)
  clear hb
  clear c00 c01 c02 c03 c04
  cases hs1 : SmallTermB t with
  | false =>
    go_wp2_with fail
    refine (known_any _).mono ?_
    rintro e wk ⟨rfl, hb⟩
    replace HV := Lib.hid (HV.out.trans (hb.mono HV.out.size))
    clear hb
    go_wp2
    go_ret
    exact ⟨rfl, HV.out⟩
  | true =>
  obtain ⟨c00, c01, c02, c03, c04⟩ := cells5 X7.out
  go_wp2_with fail
  refine (SmallTerm_any q _ w1 HQ.out).mono ?_
  rintro e w2 ⟨rfl, hb⟩
  replace HV := Lib.hid (HV.out.trans (hb.mono HV.out.size))
  replace X5 := Lib.hid (bget' hb X5.out)
  replace X7 := Lib.hid (bget' hb X7.out)
  replace HT := Lib.hid (TmAt.keep hb hb.size _ _ HT.out)
  replace HQ := Lib.hid (TmAt.keep hb hb.size _ _ HQ.out)
  clear hb
  clear c00 c01 c02 c03 c04
  cases hs2 : SmallTermB q with
  | false =>
    go_wp2_with fail
    refine (known_any _).mono ?_
    rintro e wk ⟨rfl, hb⟩
    replace HV := Lib.hid (HV.out.trans (hb.mono HV.out.size))
    clear hb
    go_wp2
    go_ret
    exact ⟨rfl, HV.out⟩
  | true =>
  have HF := SmallTerm_fit hs1; have HG := SmallTerm_fit hs2; clear hs1 hs2
  by_cases hls : s.size ≤ 30
  case neg =>
    have hls' : (30 : Int) < (s.size : Int) := by omega
    go_wp2_with fail
    refine (known_any _).mono ?_
    rintro e wk ⟨rfl, hb⟩
    replace HV := Lib.hid (HV.out.trans (hb.mono HV.out.size))
    clear hb
    go_wp2
    go_ret
    exact ⟨rfl, HV.out⟩
  have hls' : ¬ (30 : Int) < (s.size : Int) := by omega
  by_cases hlo : o.size ≤ 30
  case neg =>
    have hlo' : (30 : Int) < (o.size : Int) := by omega
    go_wp2_with fail
    refine (known_any _).mono ?_
    rintro e wk ⟨rfl, hb⟩
    replace HV := Lib.hid (HV.out.trans (hb.mono HV.out.size))
    clear hb
    go_wp2
    go_ret
    exact ⟨rfl, HV.out⟩
  have hlo' : ¬ (30 : Int) < (o.size : Int) := by omega
  obtain ⟨c00, c01, c02, c03, c04⟩ := cells5 X5.out
  go_wp2_with fail
  refine (C30 t w2 HT.out HF.ok).mono ?_
  rintro e w3 ⟨rfl, hb⟩
  replace HV := Lib.hid (HV.out.trans (hb.mono HV.out.size))
  replace X5 := Lib.hid (bget' hb X5.out)
  replace X7 := Lib.hid (bget' hb X7.out)
  replace HT := Lib.hid (TmAt.keep hb hb.size _ _ HT.out)
  replace HQ := Lib.hid (TmAt.keep hb hb.size _ _ HQ.out)
  clear hb
  clear c00 c01 c02 c03 c04
  cases htb : termB t with
  | false =>
    go_wp2_with fail
    refine (known_any _).mono ?_
    rintro e wk ⟨rfl, hb⟩
    replace HV := Lib.hid (HV.out.trans (hb.mono HV.out.size))
    clear hb
    go_wp2
    go_ret
    exact ⟨rfl, HV.out⟩
  | true =>
  have HTB := Lib.hid htb; clear htb
  obtain ⟨c00, c01, c02, c03, c04⟩ := cells5 X7.out
  go_wp2_with fail
  refine (C30 q w3 HQ.out HG.ok).mono ?_
  rintro e w4 ⟨rfl, hb⟩
  replace HV := Lib.hid (HV.out.trans (hb.mono HV.out.size))
  replace X5 := Lib.hid (bget' hb X5.out)
  replace X7 := Lib.hid (bget' hb X7.out)
  replace HT := Lib.hid (TmAt.keep hb hb.size _ _ HT.out)
  replace HQ := Lib.hid (TmAt.keep hb hb.size _ _ HQ.out)
  clear hb
  clear c00 c01 c02 c03 c04
  cases hqb : termB q with
  | false =>
    go_wp2_with fail
    refine (known_any _).mono ?_
    rintro e wk ⟨rfl, hb⟩
    replace HV := Lib.hid (HV.out.trans (hb.mono HV.out.size))
    clear hb
    go_wp2
    go_ret
    exact ⟨rfl, HV.out⟩
  | true =>
  have HQB := Lib.hid hqb; clear hqb
  go_wp2_with fail
  refine (refName_any s w4 (by unfold maxLen; omega)).mono ?_
  rintro e w5 ⟨rfl, hb⟩
  replace HV := Lib.hid (HV.out.trans (hb.mono HV.out.size))
  replace X5 := Lib.hid (bget' hb X5.out)
  replace X7 := Lib.hid (bget' hb X7.out)
  replace HT := Lib.hid (TmAt.keep hb hb.size _ _ HT.out)
  replace HQ := Lib.hid (TmAt.keep hb hb.size _ _ HQ.out)
  clear hb
  cases hns : nameB s with
  | false =>
    go_wp2_with fail
    refine (known_any _).mono ?_
    rintro e wk ⟨rfl, hb⟩
    replace HV := Lib.hid (HV.out.trans (hb.mono HV.out.size))
    clear hb
    go_wp2
    go_ret
    exact ⟨rfl, HV.out⟩
  | true =>
  have HNS := Lib.hid hns; clear hns
  go_wp2_with fail
  refine (refName_any o w5 (by unfold maxLen; omega)).mono ?_
  rintro e w6 ⟨rfl, hb⟩
  replace HV := Lib.hid (HV.out.trans (hb.mono HV.out.size))
  replace X5 := Lib.hid (bget' hb X5.out)
  replace X7 := Lib.hid (bget' hb X7.out)
  replace HT := Lib.hid (TmAt.keep hb hb.size _ _ HT.out)
  replace HQ := Lib.hid (TmAt.keep hb hb.size _ _ HQ.out)
  clear hb
  cases hno : nameB o with
  | false =>
    go_wp2_with fail
    refine (known_any _).mono ?_
    rintro e wk ⟨rfl, hb⟩
    replace HV := Lib.hid (HV.out.trans (hb.mono HV.out.size))
    clear hb
    go_wp2
    go_ret
    exact ⟨rfl, HV.out⟩
  | true =>
  have HNO := Lib.hid hno; clear hno
  obtain ⟨c00, c01, c02, c03, c04⟩ := cells5 X5.out
  go_wp2_with fail
  refine (Free_any t _ w6 HT.out HF.h HF.ok).mono ?_
  rintro e w7 ⟨he, hb⟩
  replace HV := Lib.hid (HV.out.trans (hb.mono HV.out.size))
  replace X5 := Lib.hid (bget' hb X5.out)
  replace X7 := Lib.hid (bget' hb X7.out)
  replace HT := Lib.hid (TmAt.keep hb hb.size _ _ HT.out)
  replace HQ := Lib.hid (TmAt.keep hb hb.size _ _ HQ.out)
  obtain ⟨fa, fc, rfl, hfs⟩ := FreeEnd.yes he HTB.out
  have HS1 := Lib.hid hfs; clear hfs
  clear hb
  clear c00 c01 c02 c03 c04
  obtain ⟨c00, c01, c02, c03, c04⟩ := cells5 X7.out
  go_wp2_with fail
  refine (Free_any q _ w7 HQ.out HG.h HG.ok).mono ?_
  rintro e w8 ⟨he, hb⟩
  replace HV := Lib.hid (HV.out.trans (hb.mono HV.out.size))
  replace X5 := Lib.hid (bget' hb X5.out)
  replace X7 := Lib.hid (bget' hb X7.out)
  replace HT := Lib.hid (TmAt.keep hb hb.size _ _ HT.out)
  replace HQ := Lib.hid (TmAt.keep hb hb.size _ _ HQ.out)
  replace HS1 := Lib.hid (HS1.out.mono hb.size fun b o hlt h => StrsAt.keep hb _ _ _ hlt h)
  obtain ⟨oa, oc, rfl, hos⟩ := FreeEnd.yes he HQB.out
  have HS2 := Lib.hid hos; clear hos
  clear hb
  clear c00 c01 c02 c03 c04
  cases hpb : termB (subF s q (heightM t) t) with
  | false =>
    have HPB := Lib.hid hpb; clear hpb
    obtain ⟨c00, c01, c02, c03, c04⟩ := cells5 X5.out
    obtain ⟨c10, c11, c12, c13, c14⟩ := cells5 X7.out
    go_wp2_with fail
    refine (Subst_any s q t _ _ w8 (by unfold maxLen; omega) HT.out HQ.out HF HG).mono ?_
    rintro e w9 ⟨he, hb⟩
    replace HV := Lib.hid (HV.out.trans (hb.mono HV.out.size))
    replace X5 := Lib.hid (bget' hb X5.out)
    replace X7 := Lib.hid (bget' hb X7.out)
    replace HT := Lib.hid (TmAt.keep hb hb.size _ _ HT.out)
    replace HQ := Lib.hid (TmAt.keep hb hb.size _ _ HQ.out)
    replace HS1 := Lib.hid (HS1.out.mono hb.size fun b o hlt h => StrsAt.keep hb _ _ _ hlt h)
    replace HS2 := Lib.hid (HS2.out.mono hb.size fun b o hlt h => StrsAt.keep hb _ _ _ hlt h)
    obtain rfl := SubstEnd.long he (by rw [HTB.out, HNS.out, HQB.out]; rfl) HPB.out
    unfold zeroV
    clear hb
    clear c00 c01 c02 c03 c04 c10 c11 c12 c13 c14
    go_upto_region 6 with fail
    have hb := (Below.refl _ w9).alloc (Nat.le_refl _) (.cells #[.int .i64 0, .int .i64 0, .string ⟨#[]⟩, .slice none 0 0, .slice none 0 0] 32)
    have X15n := Lib.hid (heap_alloc_new w9 (.cells #[.int .i64 0, .int .i64 0, .string ⟨#[]⟩, .slice none 0 0, .slice none 0 0] 32))
    replace HV := Lib.hid (HV.out.trans (hb.mono HV.out.size))
    replace X5 := Lib.hid (bget' hb X5.out)
    replace X7 := Lib.hid (bget' hb X7.out)
    replace HT := Lib.hid (TmAt.keep hb hb.size _ _ HT.out)
    replace HQ := Lib.hid (TmAt.keep hb hb.size _ _ HQ.out)
    replace HS1 := Lib.hid (HS1.out.mono hb.size fun b o hlt h => StrsAt.keep hb _ _ _ hlt h)
    replace HS2 := Lib.hid (HS2.out.mono hb.size fun b o hlt h => StrsAt.keep hb _ _ _ hlt h)
    clear hb
    generalize (w9.alloc (.cells #[.int .i64 0, .int .i64 0, .string ⟨#[]⟩, .slice none 0 0, .slice none 0 0] 32)) = w10 at *
    have X15 := X15n
    clear X15n
    go_wp2_with fail
    refine (known_any _).mono ?_
    rintro e wk ⟨rfl, hb⟩
    replace HV := Lib.hid (HV.out.trans (hb.mono HV.out.size))
    clear hb
    go_wp2
    go_ret
    exact ⟨rfl, HV.out⟩
  | true =>
  have HPB := Lib.hid hpb; clear hpb
  have HXF : Fit (subF s q (heightM t) t) := by
    obtain ⟨i1, i2, i3⟩ := subF_fit s q HG (heightM t) t (Nat.le_refl _) (termB_sub HTB.out HF)
    have := termB_height HTB.out; have := termB_height HQB.out
    exact ⟨by omega, i2, i3⟩
  have HSF := Lib.hid (subF_sub_frees s q t HTB.out HQB.out HF)
  obtain ⟨c00, c01, c02, c03, c04⟩ := cells5 X5.out
  obtain ⟨c10, c11, c12, c13, c14⟩ := cells5 X7.out
  go_wp2_with fail
  refine (Subst_any s q t _ _ w8 (by unfold maxLen; omega) HT.out HQ.out HF HG).mono ?_
  rintro e w9 ⟨he, hb⟩
  replace HV := Lib.hid (HV.out.trans (hb.mono HV.out.size))
  replace X5 := Lib.hid (bget' hb X5.out)
  replace X7 := Lib.hid (bget' hb X7.out)
  replace HT := Lib.hid (TmAt.keep hb hb.size _ _ HT.out)
  replace HQ := Lib.hid (TmAt.keep hb hb.size _ _ HQ.out)
  replace HS1 := Lib.hid (HS1.out.mono hb.size fun b o hlt h => StrsAt.keep hb _ _ _ hlt h)
  replace HS2 := Lib.hid (HS2.out.mono hb.size fun b o hlt h => StrsAt.keep hb _ _ _ hlt h)
  obtain ⟨vx, rfl, hvx⟩ := SubstEnd.yes he (by rw [HTB.out, HNS.out, HQB.out]; rfl) HPB.out
  generalize subF s q (heightM t) t = x at *
  have Hvx := Lib.hid hvx
  clear hvx
  obtain ⟨vxa, vxb, vxc, vxd, rfl, -⟩ := Hvx.out.parts
  clear hb
  clear c00 c01 c02 c03 c04 c10 c11 c12 c13 c14
  go_upto_region 6 with fail
  have hb := (Below.refl _ w9).alloc (Nat.le_refl _) (.cells #[.int .i64 x.op, .int .i64 x.n, .string x.text, .slice vxa x.kids.length vxb, .slice vxc x.pats.length vxd] 32)
  have X15n := Lib.hid (heap_alloc_new w9 (.cells #[.int .i64 x.op, .int .i64 x.n, .string x.text, .slice vxa x.kids.length vxb, .slice vxc x.pats.length vxd] 32))
  replace HV := Lib.hid (HV.out.trans (hb.mono HV.out.size))
  replace X5 := Lib.hid (bget' hb X5.out)
  replace X7 := Lib.hid (bget' hb X7.out)
  replace HT := Lib.hid (TmAt.keep hb hb.size _ _ HT.out)
  replace HQ := Lib.hid (TmAt.keep hb hb.size _ _ HQ.out)
  replace Hvx := Lib.hid (TmAt.keep hb hb.size _ _ Hvx.out)
  replace HS1 := Lib.hid (HS1.out.mono hb.size fun b o hlt h => StrsAt.keep hb _ _ _ hlt h)
  replace HS2 := Lib.hid (HS2.out.mono hb.size fun b o hlt h => StrsAt.keep hb _ _ _ hlt h)
  clear hb
  generalize (w9.alloc (.cells #[.int .i64 x.op, .int .i64 x.n, .string x.text, .slice vxa x.kids.length vxb, .slice vxc x.pats.length vxd] 32)) = w10 at *
  have X15 := X15n
  clear X15n
  obtain ⟨c00, c01, c02, c03, c04⟩ := cells5 X15.out
  go_wp2_with fail
  refine (Free_any x _ w10 Hvx.out HXF.h HXF.ok).mono ?_
  rintro e w11 ⟨he, hb⟩
  replace HV := Lib.hid (HV.out.trans (hb.mono HV.out.size))
  replace X5 := Lib.hid (bget' hb X5.out)
  replace X7 := Lib.hid (bget' hb X7.out)
  replace X15 := Lib.hid (bget' hb X15.out)
  replace HT := Lib.hid (TmAt.keep hb hb.size _ _ HT.out)
  replace HQ := Lib.hid (TmAt.keep hb hb.size _ _ HQ.out)
  replace Hvx := Lib.hid (TmAt.keep hb hb.size _ _ Hvx.out)
  replace HS1 := Lib.hid (HS1.out.mono hb.size fun b o hlt h => StrsAt.keep hb _ _ _ hlt h)
  replace HS2 := Lib.hid (HS2.out.mono hb.size fun b o hlt h => StrsAt.keep hb _ _ _ hlt h)
  obtain ⟨na, nc, rfl, hns⟩ := FreeEnd.yes he HPB.out
  have HS3 := Lib.hid hns; clear hns
  clear hb
  clear c00 c01 c02 c03 c04
  go_wp2_with fail
  refine (Has_any (freeL t) _ s w11 HS1.out).mono ?_
  rintro e w12 ⟨rfl, hb⟩
  replace HV := Lib.hid (HV.out.trans (hb.mono HV.out.size))
  replace X5 := Lib.hid (bget' hb X5.out)
  replace X7 := Lib.hid (bget' hb X7.out)
  replace X15 := Lib.hid (bget' hb X15.out)
  replace HT := Lib.hid (TmAt.keep hb hb.size _ _ HT.out)
  replace HQ := Lib.hid (TmAt.keep hb hb.size _ _ HQ.out)
  replace Hvx := Lib.hid (TmAt.keep hb hb.size _ _ Hvx.out)
  replace HS1 := Lib.hid (HS1.out.mono hb.size fun b o hlt h => StrsAt.keep hb _ _ _ hlt h)
  replace HS2 := Lib.hid (HS2.out.mono hb.size fun b o hlt h => StrsAt.keep hb _ _ _ hlt h)
  replace HS3 := Lib.hid (HS3.out.mono hb.size fun b o hlt h => StrsAt.keep hb _ _ _ hlt h)
  clear hb
  have hl1 := freeL_few HTB.out; have hl2 := freeL_few HQB.out; have hl3 := freeL_few HPB.out
  cases hisv : hasB (freeL t) s with
  | false =>
    have HIS := Lib.hid hisv; clear hisv
    have his := HIS.out
    go_wp2_with fail
    go_loopw [20] (fun i wr => ∃ k : Nat, k ≤ (freeL x).length ∧ i = .int .i64 k ∧ Below w12.heap.size w12 wr) (fun i _ => (freeL x).length - (intOf i).toNat)
    case atStart => exact ⟨0, Nat.zero_le _, rfl, Below.refl _ _⟩
    case round =>
      obtain ⟨k, hk, rfl, hb⟩ := hrel
      have HB0 := Lib.hid hb
      replace HV := Lib.hid (HV.out.trans (hb.mono HV.out.size))
      replace X5 := Lib.hid (bget' hb X5.out)
      replace X7 := Lib.hid (bget' hb X7.out)
      replace X15 := Lib.hid (bget' hb X15.out)
      replace HT := Lib.hid (TmAt.keep hb hb.size _ _ HT.out)
      replace HQ := Lib.hid (TmAt.keep hb hb.size _ _ HQ.out)
      replace Hvx := Lib.hid (TmAt.keep hb hb.size _ _ Hvx.out)
      replace HS1 := Lib.hid (HS1.out.mono hb.size fun b o hlt h => StrsAt.keep hb _ _ _ hlt h)
      replace HS2 := Lib.hid (HS2.out.mono hb.size fun b o hlt h => StrsAt.keep hb _ _ _ hlt h)
      replace HS3 := Lib.hid (HS3.out.mono hb.size fun b o hlt h => StrsAt.keep hb _ _ _ hlt h)
      clear hb
      by_cases hlt : k < (freeL x).length
      · have hlt' : (k : Int) < ((freeL x).length : Int) := by omega
        obtain ⟨la, lc, hsl, -, -, hka⟩ := HS3.out.split
        obtain ⟨kb, ko, hke, hkbn, hss⟩ := hka (by omega)
        simp only [Value.slice.injEq, true_and] at hsl
        obtain ⟨rfl, rfl⟩ := hsl
        subst hke
        have hcell := (StrsAt.get _ kb ko hss k hlt).1
        clear hka hss
        have hfx := (HSF.out _).1 (free_mem hlt)
        generalize (freeL x)[k] = y at *
        have HY := Lib.hid hfx; clear hfx
        have hyt : FVs t y.toList ∧ y.toList ≠ s.toList := by
          rcases HY.out with h | h
          · exact h
          · rw [(hasB_free t s).2 h.1] at his; cases his
        have hwas : hasB (freeL t) y = true := (hasB_free t y).2 hyt.1
        have hys' : (y.toList == s.toList) = false := by simpa using hyt.2
        clear HY hyt
        go_wp2_with fail
        refine (Has_any (freeL t) _ y wr HS1.out).mono ?_
        rintro e u13 ⟨rfl, hb⟩
        rw [hwas]
        replace HB0 := Lib.hid (HB0.out.trans (hb.mono HB0.out.size))
        replace HV := Lib.hid (HV.out.trans (hb.mono HV.out.size))
        replace X5 := Lib.hid (bget' hb X5.out)
        replace X7 := Lib.hid (bget' hb X7.out)
        replace X15 := Lib.hid (bget' hb X15.out)
        replace HT := Lib.hid (TmAt.keep hb hb.size _ _ HT.out)
        replace HQ := Lib.hid (TmAt.keep hb hb.size _ _ HQ.out)
        replace Hvx := Lib.hid (TmAt.keep hb hb.size _ _ Hvx.out)
        replace HS1 := Lib.hid (HS1.out.mono hb.size fun b o hlt h => StrsAt.keep hb _ _ _ hlt h)
        replace HS2 := Lib.hid (HS2.out.mono hb.size fun b o hlt h => StrsAt.keep hb _ _ _ hlt h)
        replace HS3 := Lib.hid (HS3.out.mono hb.size fun b o hlt h => StrsAt.keep hb _ _ _ hlt h)
        have hcell' := (hb.cell (p := ⟨kb, _, none⟩) hkbn).trans hcell
        have hkbn' := Nat.lt_of_lt_of_le hkbn hb.size
        clear hcell hkbn hb
        have hcell := hcell'; have hkbn := hkbn'
        clear hcell' hkbn'
        clear hwas
        go_wp2
        go_roundw
        case rel => exact ⟨k + 1, by omega, by go_num, HB0.out⟩
        case measure => simp [intOf]; omega
      · obtain rfl : k = (freeL x).length := by omega
        clear hk HB0
        generalize wr = wc13 at *
        go_wp2_with fail
        go_loopw [21] (fun i wr => ∃ k : Nat, k ≤ (freeL t).length ∧ i = .int .i64 k ∧ Below wc13.heap.size wc13 wr) (fun i _ => (freeL t).length - (intOf i).toNat)
        case atStart => exact ⟨0, Nat.zero_le _, rfl, Below.refl _ _⟩
        case round =>
          obtain ⟨k, hk, rfl, hb⟩ := hrel
          have HB0 := Lib.hid hb
          replace HV := Lib.hid (HV.out.trans (hb.mono HV.out.size))
          replace X5 := Lib.hid (bget' hb X5.out)
          replace X7 := Lib.hid (bget' hb X7.out)
          replace X15 := Lib.hid (bget' hb X15.out)
          replace HT := Lib.hid (TmAt.keep hb hb.size _ _ HT.out)
          replace HQ := Lib.hid (TmAt.keep hb hb.size _ _ HQ.out)
          replace Hvx := Lib.hid (TmAt.keep hb hb.size _ _ Hvx.out)
          replace HS1 := Lib.hid (HS1.out.mono hb.size fun b o hlt h => StrsAt.keep hb _ _ _ hlt h)
          replace HS2 := Lib.hid (HS2.out.mono hb.size fun b o hlt h => StrsAt.keep hb _ _ _ hlt h)
          replace HS3 := Lib.hid (HS3.out.mono hb.size fun b o hlt h => StrsAt.keep hb _ _ _ hlt h)
          clear hb
          by_cases hlt : k < (freeL t).length
          · have hlt' : (k : Int) < ((freeL t).length : Int) := by omega
            obtain ⟨la, lc, hsl, -, -, hka⟩ := HS1.out.split
            obtain ⟨kb, ko, hke, hkbn, hss⟩ := hka (by omega)
            simp only [Value.slice.injEq, true_and] at hsl
            obtain ⟨rfl, rfl⟩ := hsl
            subst hke
            have hcell := (StrsAt.get _ kb ko hss k hlt).1
            clear hka hss
            have hfx := free_mem hlt
            generalize (freeL t)[k] = y at *
            by_cases hys : (y.toList == s.toList) = true
            · skip
              clear hfx
              go_wp2
              go_roundw
              case rel => exact ⟨k + 1, by omega, by go_num, HB0.out⟩
              case measure => simp [intOf]; omega
            · have hys' : (y.toList == s.toList) = false := by simpa using hys
              have hoy : hasB (freeL x) y = true := (hasB_free x y).2 ((HSF.out _).2 (.inl ⟨hfx, by simpa using hys⟩))
              clear hfx hys
              go_wp2_with fail
              refine (Has_any (freeL x) _ y wr HS3.out).mono ?_
              rintro e u14 ⟨rfl, hb⟩
              rw [hoy]
              replace HB0 := Lib.hid (HB0.out.trans (hb.mono HB0.out.size))
              replace HV := Lib.hid (HV.out.trans (hb.mono HV.out.size))
              replace X5 := Lib.hid (bget' hb X5.out)
              replace X7 := Lib.hid (bget' hb X7.out)
              replace X15 := Lib.hid (bget' hb X15.out)
              replace HT := Lib.hid (TmAt.keep hb hb.size _ _ HT.out)
              replace HQ := Lib.hid (TmAt.keep hb hb.size _ _ HQ.out)
              replace Hvx := Lib.hid (TmAt.keep hb hb.size _ _ Hvx.out)
              replace HS1 := Lib.hid (HS1.out.mono hb.size fun b o hlt h => StrsAt.keep hb _ _ _ hlt h)
              replace HS2 := Lib.hid (HS2.out.mono hb.size fun b o hlt h => StrsAt.keep hb _ _ _ hlt h)
              replace HS3 := Lib.hid (HS3.out.mono hb.size fun b o hlt h => StrsAt.keep hb _ _ _ hlt h)
              have hcell' := (hb.cell (p := ⟨kb, _, none⟩) hkbn).trans hcell
              have hkbn' := Nat.lt_of_lt_of_le hkbn hb.size
              clear hcell hkbn hb
              have hcell := hcell'; have hkbn := hkbn'
              clear hcell' hkbn'
              go_wp2
              go_roundw
              case rel => exact ⟨k + 1, by omega, by go_num, HB0.out⟩
              case measure => simp [intOf]; omega
          · obtain rfl : k = (freeL t).length := by omega
            clear hk HB0
            generalize wr = wc14 at *
            go_wp2_with fail
            go_loopw [22] (fun i wr => i = .int .i64 0 ∧ wr = wc14) (fun _ _ => 0)
            case atStart => exact ⟨rfl, rfl⟩
            case round =>
              obtain ⟨rfl, hwr⟩ := hrel
              subst hwr
              generalize wr = wz at *
              by_cases hq0 : 0 < (freeL q).length
              · have hq0' : (0 : Int) < ((freeL q).length : Int) := by omega
                clear his
                go_upto_region 29 with fail
                go_upto_region 30 with fail
                have hb := (Below.refl _ wz).alloc (Nat.le_refl _) (.cells #[.int .i64 1, .int .i64 (n.tmod 1000), .string ⟨#[]⟩, .slice none 0 0, .slice none 0 0] 32)
                have X23n := Lib.hid (heap_alloc_new wz (.cells #[.int .i64 1, .int .i64 (n.tmod 1000), .string ⟨#[]⟩, .slice none 0 0, .slice none 0 0] 32))
                replace HV := Lib.hid (HV.out.trans (hb.mono HV.out.size))
                replace X5 := Lib.hid (bget' hb X5.out)
                replace X7 := Lib.hid (bget' hb X7.out)
                replace X15 := Lib.hid (bget' hb X15.out)
                replace HT := Lib.hid (TmAt.keep hb hb.size _ _ HT.out)
                replace HQ := Lib.hid (TmAt.keep hb hb.size _ _ HQ.out)
                replace Hvx := Lib.hid (TmAt.keep hb hb.size _ _ Hvx.out)
                replace HS1 := Lib.hid (HS1.out.mono hb.size fun b o hlt h => StrsAt.keep hb _ _ _ hlt h)
                replace HS2 := Lib.hid (HS2.out.mono hb.size fun b o hlt h => StrsAt.keep hb _ _ _ hlt h)
                replace HS3 := Lib.hid (HS3.out.mono hb.size fun b o hlt h => StrsAt.keep hb _ _ _ hlt h)
                clear hb
                generalize (wz.alloc (.cells #[.int .i64 1, .int .i64 (n.tmod 1000), .string ⟨#[]⟩, .slice none 0 0, .slice none 0 0] 32)) = w15 at *
                have X23 := X23n
                clear X23n
                go_upto_region 31 with fail
                have hb := (Below.refl _ w15).alloc (Nat.le_refl _) (.cells #[.int .i64 3, .int .i64 0, .string ⟨#[]⟩, .slice none 0 0, .slice none 0 0] 32)
                have X24n := Lib.hid (heap_alloc_new w15 (.cells #[.int .i64 3, .int .i64 0, .string ⟨#[]⟩, .slice none 0 0, .slice none 0 0] 32))
                replace HV := Lib.hid (HV.out.trans (hb.mono HV.out.size))
                replace X5 := Lib.hid (bget' hb X5.out)
                replace X7 := Lib.hid (bget' hb X7.out)
                replace X15 := Lib.hid (bget' hb X15.out)
                replace X23 := Lib.hid (bget' hb X23.out)
                replace HT := Lib.hid (TmAt.keep hb hb.size _ _ HT.out)
                replace HQ := Lib.hid (TmAt.keep hb hb.size _ _ HQ.out)
                replace Hvx := Lib.hid (TmAt.keep hb hb.size _ _ Hvx.out)
                replace HS1 := Lib.hid (HS1.out.mono hb.size fun b o hlt h => StrsAt.keep hb _ _ _ hlt h)
                replace HS2 := Lib.hid (HS2.out.mono hb.size fun b o hlt h => StrsAt.keep hb _ _ _ hlt h)
                replace HS3 := Lib.hid (HS3.out.mono hb.size fun b o hlt h => StrsAt.keep hb _ _ _ hlt h)
                clear hb
                generalize (w15.alloc (.cells #[.int .i64 3, .int .i64 0, .string ⟨#[]⟩, .slice none 0 0, .slice none 0 0] 32)) = w16 at *
                have X24 := X24n
                clear X24n
                have HL1 := oneM (n.tmod 1000) (Int.lt_tmod_of_pos n (by decide)) (Int.tmod_lt_of_pos n (by decide))
                have HL2 := twoM
                by_cases hso : (s.toList == o.toList) = true
                · skip
                  go_wp2_with fail
                  refine (known_any _).mono ?_
                  rintro e wk ⟨rfl, hb⟩
                  replace HV := Lib.hid (HV.out.trans (hb.mono HV.out.size))
                  clear hb
                  go_wp2
                  go_ret
                  exact ⟨rfl, HV.out⟩
                have hso' : (s.toList == o.toList) = false := by simpa using hso
                have HNE := Lib.hid (show s.toList ≠ o.toList by simpa using hso)
                clear hso
                obtain ⟨A, hA⟩ : ∃ A, A = repM s (.mk 1 (n.tmod 1000) ⟨#[]⟩ [] []) t := ⟨_, rfl⟩
                obtain ⟨B, hB⟩ : ∃ B, B = repM o (.mk 3 0 ⟨#[]⟩ [] []) t := ⟨_, rfl⟩
                have HAB := Lib.hid (show termB A = true by rw [hA]; exact termB_rep s _ t HL1.fits HL1.kids HTB.out)
                have HBB := Lib.hid (show termB B = true by rw [hB]; exact termB_rep o _ t HL2.fits HL2.kids HTB.out)
                have HAF : Fit A := by rw [hA]; exact rep_fit HL1 HTB.out HF
                have HBF : Fit B := by rw [hB]; exact rep_fit HL2 HTB.out HF
                obtain ⟨C, hC⟩ : ∃ C, C = repM o (.mk 3 0 ⟨#[]⟩ [] []) A := ⟨_, rfl⟩
                have hD : repM s (.mk 1 (n.tmod 1000) ⟨#[]⟩ [] []) B = C := by
                  rw [hC, hA, hB]
                  exact (rep_comm s o _ _ HNE.out (rep_leaf _ _ _ _ _ _ (by decide)) (rep_leaf _ _ _ _ _ _ (by decide)) t).symm
                have HEA := Lib.hid hA; have HEB := Lib.hid hB; have HEC := Lib.hid hC; have HED := Lib.hid hD
                clear hA hB hC hD
                obtain ⟨c00, c01, c02, c03, c04⟩ := cells5 X5.out
                obtain ⟨c10, c11, c12, c13, c14⟩ := cells5 X23.out
                go_wp2_with fail
                refine (Subst_any s (.mk 1 (n.tmod 1000) ⟨#[]⟩ [] []) t _ _ w16 (by unfold maxLen; omega) HT.out (leaf_at _ _ _ _) HF HL1.fit).mono ?_
                rintro e w17 ⟨he, hb⟩
                replace HV := Lib.hid (HV.out.trans (hb.mono HV.out.size))
                replace X5 := Lib.hid (bget' hb X5.out)
                replace X7 := Lib.hid (bget' hb X7.out)
                replace X15 := Lib.hid (bget' hb X15.out)
                replace X23 := Lib.hid (bget' hb X23.out)
                replace X24 := Lib.hid (bget' hb X24.out)
                replace HT := Lib.hid (TmAt.keep hb hb.size _ _ HT.out)
                replace HQ := Lib.hid (TmAt.keep hb hb.size _ _ HQ.out)
                replace Hvx := Lib.hid (TmAt.keep hb hb.size _ _ Hvx.out)
                replace HS1 := Lib.hid (HS1.out.mono hb.size fun b o hlt h => StrsAt.keep hb _ _ _ hlt h)
                replace HS2 := Lib.hid (HS2.out.mono hb.size fun b o hlt h => StrsAt.keep hb _ _ _ hlt h)
                replace HS3 := Lib.hid (HS3.out.mono hb.size fun b o hlt h => StrsAt.keep hb _ _ _ hlt h)
                obtain ⟨va, rfl, hva⟩ := SubstEnd.leaf he HL1 HTB.out HF HNS.out
                rw [← HEA.out] at hva
                have Hva := Lib.hid hva
                clear hva
                obtain ⟨vaa, vab, vac, vad, rfl, -⟩ := Hva.out.parts
                clear hb
                clear c00 c01 c02 c03 c04 c10 c11 c12 c13 c14
                go_upto_region 34 with fail
                have hb := (Below.refl _ w17).alloc (Nat.le_refl _) (.cells #[.int .i64 A.op, .int .i64 A.n, .string A.text, .slice vaa A.kids.length vab, .slice vac A.pats.length vad] 32)
                have X25n := Lib.hid (heap_alloc_new w17 (.cells #[.int .i64 A.op, .int .i64 A.n, .string A.text, .slice vaa A.kids.length vab, .slice vac A.pats.length vad] 32))
                replace HV := Lib.hid (HV.out.trans (hb.mono HV.out.size))
                replace X5 := Lib.hid (bget' hb X5.out)
                replace X7 := Lib.hid (bget' hb X7.out)
                replace X15 := Lib.hid (bget' hb X15.out)
                replace X23 := Lib.hid (bget' hb X23.out)
                replace X24 := Lib.hid (bget' hb X24.out)
                replace HT := Lib.hid (TmAt.keep hb hb.size _ _ HT.out)
                replace HQ := Lib.hid (TmAt.keep hb hb.size _ _ HQ.out)
                replace Hvx := Lib.hid (TmAt.keep hb hb.size _ _ Hvx.out)
                replace Hva := Lib.hid (TmAt.keep hb hb.size _ _ Hva.out)
                replace HS1 := Lib.hid (HS1.out.mono hb.size fun b o hlt h => StrsAt.keep hb _ _ _ hlt h)
                replace HS2 := Lib.hid (HS2.out.mono hb.size fun b o hlt h => StrsAt.keep hb _ _ _ hlt h)
                replace HS3 := Lib.hid (HS3.out.mono hb.size fun b o hlt h => StrsAt.keep hb _ _ _ hlt h)
                clear hb
                generalize (w17.alloc (.cells #[.int .i64 A.op, .int .i64 A.n, .string A.text, .slice vaa A.kids.length vab, .slice vac A.pats.length vad] 32)) = w18 at *
                have X25 := X25n
                clear X25n
                obtain ⟨c00, c01, c02, c03, c04⟩ := cells5 X5.out
                obtain ⟨c10, c11, c12, c13, c14⟩ := cells5 X24.out
                go_wp2_with fail
                refine (Subst_any o (.mk 3 0 ⟨#[]⟩ [] []) t _ _ w18 (by unfold maxLen; omega) HT.out (leaf_at _ _ _ _) HF HL2.fit).mono ?_
                rintro e w19 ⟨he, hb⟩
                replace HV := Lib.hid (HV.out.trans (hb.mono HV.out.size))
                replace X5 := Lib.hid (bget' hb X5.out)
                replace X7 := Lib.hid (bget' hb X7.out)
                replace X15 := Lib.hid (bget' hb X15.out)
                replace X23 := Lib.hid (bget' hb X23.out)
                replace X24 := Lib.hid (bget' hb X24.out)
                replace X25 := Lib.hid (bget' hb X25.out)
                replace HT := Lib.hid (TmAt.keep hb hb.size _ _ HT.out)
                replace HQ := Lib.hid (TmAt.keep hb hb.size _ _ HQ.out)
                replace Hvx := Lib.hid (TmAt.keep hb hb.size _ _ Hvx.out)
                replace Hva := Lib.hid (TmAt.keep hb hb.size _ _ Hva.out)
                replace HS1 := Lib.hid (HS1.out.mono hb.size fun b o hlt h => StrsAt.keep hb _ _ _ hlt h)
                replace HS2 := Lib.hid (HS2.out.mono hb.size fun b o hlt h => StrsAt.keep hb _ _ _ hlt h)
                replace HS3 := Lib.hid (HS3.out.mono hb.size fun b o hlt h => StrsAt.keep hb _ _ _ hlt h)
                obtain ⟨vb, rfl, hvb⟩ := SubstEnd.leaf he HL2 HTB.out HF HNO.out
                rw [← HEB.out] at hvb
                have Hvb := Lib.hid hvb
                clear hvb
                obtain ⟨vba, vbb, vbc, vbd, rfl, -⟩ := Hvb.out.parts
                clear hb
                clear c00 c01 c02 c03 c04 c10 c11 c12 c13 c14
                go_upto_region 35 with fail
                have hb := (Below.refl _ w19).alloc (Nat.le_refl _) (.cells #[.int .i64 B.op, .int .i64 B.n, .string B.text, .slice vba B.kids.length vbb, .slice vbc B.pats.length vbd] 32)
                have X27n := Lib.hid (heap_alloc_new w19 (.cells #[.int .i64 B.op, .int .i64 B.n, .string B.text, .slice vba B.kids.length vbb, .slice vbc B.pats.length vbd] 32))
                replace HV := Lib.hid (HV.out.trans (hb.mono HV.out.size))
                replace X5 := Lib.hid (bget' hb X5.out)
                replace X7 := Lib.hid (bget' hb X7.out)
                replace X15 := Lib.hid (bget' hb X15.out)
                replace X23 := Lib.hid (bget' hb X23.out)
                replace X24 := Lib.hid (bget' hb X24.out)
                replace X25 := Lib.hid (bget' hb X25.out)
                replace HT := Lib.hid (TmAt.keep hb hb.size _ _ HT.out)
                replace HQ := Lib.hid (TmAt.keep hb hb.size _ _ HQ.out)
                replace Hvx := Lib.hid (TmAt.keep hb hb.size _ _ Hvx.out)
                replace Hva := Lib.hid (TmAt.keep hb hb.size _ _ Hva.out)
                replace Hvb := Lib.hid (TmAt.keep hb hb.size _ _ Hvb.out)
                replace HS1 := Lib.hid (HS1.out.mono hb.size fun b o hlt h => StrsAt.keep hb _ _ _ hlt h)
                replace HS2 := Lib.hid (HS2.out.mono hb.size fun b o hlt h => StrsAt.keep hb _ _ _ hlt h)
                replace HS3 := Lib.hid (HS3.out.mono hb.size fun b o hlt h => StrsAt.keep hb _ _ _ hlt h)
                clear hb
                generalize (w19.alloc (.cells #[.int .i64 B.op, .int .i64 B.n, .string B.text, .slice vba B.kids.length vbb, .slice vbc B.pats.length vbd] 32)) = w20 at *
                have X27 := X27n
                clear X27n
                obtain ⟨c00, c01, c02, c03, c04⟩ := cells5 X25.out
                obtain ⟨c10, c11, c12, c13, c14⟩ := cells5 X24.out
                go_wp2_with fail
                refine (Subst_any o (.mk 3 0 ⟨#[]⟩ [] []) A _ _ w20 (by unfold maxLen; omega) Hva.out (leaf_at _ _ _ _) HAF HL2.fit).mono ?_
                rintro e w21 ⟨he, hb⟩
                replace HV := Lib.hid (HV.out.trans (hb.mono HV.out.size))
                replace X5 := Lib.hid (bget' hb X5.out)
                replace X7 := Lib.hid (bget' hb X7.out)
                replace X15 := Lib.hid (bget' hb X15.out)
                replace X23 := Lib.hid (bget' hb X23.out)
                replace X24 := Lib.hid (bget' hb X24.out)
                replace X25 := Lib.hid (bget' hb X25.out)
                replace X27 := Lib.hid (bget' hb X27.out)
                replace HT := Lib.hid (TmAt.keep hb hb.size _ _ HT.out)
                replace HQ := Lib.hid (TmAt.keep hb hb.size _ _ HQ.out)
                replace Hvx := Lib.hid (TmAt.keep hb hb.size _ _ Hvx.out)
                replace Hva := Lib.hid (TmAt.keep hb hb.size _ _ Hva.out)
                replace Hvb := Lib.hid (TmAt.keep hb hb.size _ _ Hvb.out)
                replace HS1 := Lib.hid (HS1.out.mono hb.size fun b o hlt h => StrsAt.keep hb _ _ _ hlt h)
                replace HS2 := Lib.hid (HS2.out.mono hb.size fun b o hlt h => StrsAt.keep hb _ _ _ hlt h)
                replace HS3 := Lib.hid (HS3.out.mono hb.size fun b o hlt h => StrsAt.keep hb _ _ _ hlt h)
                obtain ⟨vc, rfl, hvc⟩ := SubstEnd.leaf he HL2 HAB.out HAF HNO.out
                rw [← HEC.out] at hvc
                have Hvc := Lib.hid hvc
                clear hvc
                obtain ⟨vca, vcb, vcc, vcd, rfl, -⟩ := Hvc.out.parts
                clear hb
                clear c00 c01 c02 c03 c04 c10 c11 c12 c13 c14
                go_upto_region 38 with fail
                have hb := (Below.refl _ w21).alloc (Nat.le_refl _) (.cells #[.int .i64 C.op, .int .i64 C.n, .string C.text, .slice vca C.kids.length vcb, .slice vcc C.pats.length vcd] 32)
                have X29n := Lib.hid (heap_alloc_new w21 (.cells #[.int .i64 C.op, .int .i64 C.n, .string C.text, .slice vca C.kids.length vcb, .slice vcc C.pats.length vcd] 32))
                replace HV := Lib.hid (HV.out.trans (hb.mono HV.out.size))
                replace X5 := Lib.hid (bget' hb X5.out)
                replace X7 := Lib.hid (bget' hb X7.out)
                replace X15 := Lib.hid (bget' hb X15.out)
                replace X23 := Lib.hid (bget' hb X23.out)
                replace X24 := Lib.hid (bget' hb X24.out)
                replace X25 := Lib.hid (bget' hb X25.out)
                replace X27 := Lib.hid (bget' hb X27.out)
                replace HT := Lib.hid (TmAt.keep hb hb.size _ _ HT.out)
                replace HQ := Lib.hid (TmAt.keep hb hb.size _ _ HQ.out)
                replace Hvx := Lib.hid (TmAt.keep hb hb.size _ _ Hvx.out)
                replace Hva := Lib.hid (TmAt.keep hb hb.size _ _ Hva.out)
                replace Hvb := Lib.hid (TmAt.keep hb hb.size _ _ Hvb.out)
                replace Hvc := Lib.hid (TmAt.keep hb hb.size _ _ Hvc.out)
                replace HS1 := Lib.hid (HS1.out.mono hb.size fun b o hlt h => StrsAt.keep hb _ _ _ hlt h)
                replace HS2 := Lib.hid (HS2.out.mono hb.size fun b o hlt h => StrsAt.keep hb _ _ _ hlt h)
                replace HS3 := Lib.hid (HS3.out.mono hb.size fun b o hlt h => StrsAt.keep hb _ _ _ hlt h)
                clear hb
                generalize (w21.alloc (.cells #[.int .i64 C.op, .int .i64 C.n, .string C.text, .slice vca C.kids.length vcb, .slice vcc C.pats.length vcd] 32)) = w22 at *
                have X29 := X29n
                clear X29n
                obtain ⟨c00, c01, c02, c03, c04⟩ := cells5 X27.out
                obtain ⟨c10, c11, c12, c13, c14⟩ := cells5 X23.out
                go_wp2_with fail
                refine (Subst_any s (.mk 1 (n.tmod 1000) ⟨#[]⟩ [] []) B _ _ w22 (by unfold maxLen; omega) Hvb.out (leaf_at _ _ _ _) HBF HL1.fit).mono ?_
                rintro e w23 ⟨he, hb⟩
                replace HV := Lib.hid (HV.out.trans (hb.mono HV.out.size))
                replace X5 := Lib.hid (bget' hb X5.out)
                replace X7 := Lib.hid (bget' hb X7.out)
                replace X15 := Lib.hid (bget' hb X15.out)
                replace X23 := Lib.hid (bget' hb X23.out)
                replace X24 := Lib.hid (bget' hb X24.out)
                replace X25 := Lib.hid (bget' hb X25.out)
                replace X27 := Lib.hid (bget' hb X27.out)
                replace X29 := Lib.hid (bget' hb X29.out)
                replace HT := Lib.hid (TmAt.keep hb hb.size _ _ HT.out)
                replace HQ := Lib.hid (TmAt.keep hb hb.size _ _ HQ.out)
                replace Hvx := Lib.hid (TmAt.keep hb hb.size _ _ Hvx.out)
                replace Hva := Lib.hid (TmAt.keep hb hb.size _ _ Hva.out)
                replace Hvb := Lib.hid (TmAt.keep hb hb.size _ _ Hvb.out)
                replace Hvc := Lib.hid (TmAt.keep hb hb.size _ _ Hvc.out)
                replace HS1 := Lib.hid (HS1.out.mono hb.size fun b o hlt h => StrsAt.keep hb _ _ _ hlt h)
                replace HS2 := Lib.hid (HS2.out.mono hb.size fun b o hlt h => StrsAt.keep hb _ _ _ hlt h)
                replace HS3 := Lib.hid (HS3.out.mono hb.size fun b o hlt h => StrsAt.keep hb _ _ _ hlt h)
                obtain ⟨vd, rfl, hvd⟩ := SubstEnd.leaf he HL1 HBB.out HBF HNS.out
                rw [HED.out] at hvd
                have Hvd := Lib.hid hvd
                clear hvd
                obtain ⟨vda, vdb, vdc, vdd, rfl, -⟩ := Hvd.out.parts
                clear hb
                clear c00 c01 c02 c03 c04 c10 c11 c12 c13 c14
                go_upto_region 39 with fail
                have hb := (Below.refl _ w23).alloc (Nat.le_refl _) (.cells #[.int .i64 C.op, .int .i64 C.n, .string C.text, .slice vda C.kids.length vdb, .slice vdc C.pats.length vdd] 32)
                have X31n := Lib.hid (heap_alloc_new w23 (.cells #[.int .i64 C.op, .int .i64 C.n, .string C.text, .slice vda C.kids.length vdb, .slice vdc C.pats.length vdd] 32))
                replace HV := Lib.hid (HV.out.trans (hb.mono HV.out.size))
                replace X5 := Lib.hid (bget' hb X5.out)
                replace X7 := Lib.hid (bget' hb X7.out)
                replace X15 := Lib.hid (bget' hb X15.out)
                replace X23 := Lib.hid (bget' hb X23.out)
                replace X24 := Lib.hid (bget' hb X24.out)
                replace X25 := Lib.hid (bget' hb X25.out)
                replace X27 := Lib.hid (bget' hb X27.out)
                replace X29 := Lib.hid (bget' hb X29.out)
                replace HT := Lib.hid (TmAt.keep hb hb.size _ _ HT.out)
                replace HQ := Lib.hid (TmAt.keep hb hb.size _ _ HQ.out)
                replace Hvx := Lib.hid (TmAt.keep hb hb.size _ _ Hvx.out)
                replace Hva := Lib.hid (TmAt.keep hb hb.size _ _ Hva.out)
                replace Hvb := Lib.hid (TmAt.keep hb hb.size _ _ Hvb.out)
                replace Hvc := Lib.hid (TmAt.keep hb hb.size _ _ Hvc.out)
                replace Hvd := Lib.hid (TmAt.keep hb hb.size _ _ Hvd.out)
                replace HS1 := Lib.hid (HS1.out.mono hb.size fun b o hlt h => StrsAt.keep hb _ _ _ hlt h)
                replace HS2 := Lib.hid (HS2.out.mono hb.size fun b o hlt h => StrsAt.keep hb _ _ _ hlt h)
                replace HS3 := Lib.hid (HS3.out.mono hb.size fun b o hlt h => StrsAt.keep hb _ _ _ hlt h)
                clear hb
                generalize (w23.alloc (.cells #[.int .i64 C.op, .int .i64 C.n, .string C.text, .slice vda C.kids.length vdb, .slice vdc C.pats.length vdd] 32)) = w24 at *
                have X31 := X31n
                clear X31n
                obtain ⟨c00, c01, c02, c03, c04⟩ := cells5 X29.out
                obtain ⟨c10, c11, c12, c13, c14⟩ := cells5 X31.out
                go_wp2_with fail
                refine (Same_any C C _ _ w24 Hvc.out Hvd.out).mono ?_
                rintro e w25 ⟨rfl, hb⟩
                replace HV := Lib.hid (HV.out.trans (hb.mono HV.out.size))
                replace X5 := Lib.hid (bget' hb X5.out)
                replace X7 := Lib.hid (bget' hb X7.out)
                replace X15 := Lib.hid (bget' hb X15.out)
                replace X23 := Lib.hid (bget' hb X23.out)
                replace X24 := Lib.hid (bget' hb X24.out)
                replace X25 := Lib.hid (bget' hb X25.out)
                replace X27 := Lib.hid (bget' hb X27.out)
                replace X29 := Lib.hid (bget' hb X29.out)
                replace X31 := Lib.hid (bget' hb X31.out)
                replace HT := Lib.hid (TmAt.keep hb hb.size _ _ HT.out)
                replace HQ := Lib.hid (TmAt.keep hb hb.size _ _ HQ.out)
                replace Hvx := Lib.hid (TmAt.keep hb hb.size _ _ Hvx.out)
                replace Hva := Lib.hid (TmAt.keep hb hb.size _ _ Hva.out)
                replace Hvb := Lib.hid (TmAt.keep hb hb.size _ _ Hvb.out)
                replace Hvc := Lib.hid (TmAt.keep hb hb.size _ _ Hvc.out)
                replace Hvd := Lib.hid (TmAt.keep hb hb.size _ _ Hvd.out)
                replace HS1 := Lib.hid (HS1.out.mono hb.size fun b o hlt h => StrsAt.keep hb _ _ _ hlt h)
                replace HS2 := Lib.hid (HS2.out.mono hb.size fun b o hlt h => StrsAt.keep hb _ _ _ hlt h)
                replace HS3 := Lib.hid (HS3.out.mono hb.size fun b o hlt h => StrsAt.keep hb _ _ _ hlt h)
                rw [eqM_refl]
                clear hb
                clear c00 c01 c02 c03 c04 c10 c11 c12 c13 c14
                go_wp2_with fail
                refine (known_any _).mono ?_
                rintro e wk ⟨rfl, hb⟩
                replace HV := Lib.hid (HV.out.trans (hb.mono HV.out.size))
                clear hb
                go_wp2
                go_ret
                exact ⟨rfl, HV.out⟩
              · have hq0' : ¬ (0 : Int) < ((freeL q).length : Int) := by omega
                clear his
                go_upto_region 29 with fail
                go_upto_region 30 with fail
                have hb := (Below.refl _ wz).alloc (Nat.le_refl _) (.cells #[.int .i64 1, .int .i64 (n.tmod 1000), .string ⟨#[]⟩, .slice none 0 0, .slice none 0 0] 32)
                have X23n := Lib.hid (heap_alloc_new wz (.cells #[.int .i64 1, .int .i64 (n.tmod 1000), .string ⟨#[]⟩, .slice none 0 0, .slice none 0 0] 32))
                replace HV := Lib.hid (HV.out.trans (hb.mono HV.out.size))
                replace X5 := Lib.hid (bget' hb X5.out)
                replace X7 := Lib.hid (bget' hb X7.out)
                replace X15 := Lib.hid (bget' hb X15.out)
                replace HT := Lib.hid (TmAt.keep hb hb.size _ _ HT.out)
                replace HQ := Lib.hid (TmAt.keep hb hb.size _ _ HQ.out)
                replace Hvx := Lib.hid (TmAt.keep hb hb.size _ _ Hvx.out)
                replace HS1 := Lib.hid (HS1.out.mono hb.size fun b o hlt h => StrsAt.keep hb _ _ _ hlt h)
                replace HS2 := Lib.hid (HS2.out.mono hb.size fun b o hlt h => StrsAt.keep hb _ _ _ hlt h)
                replace HS3 := Lib.hid (HS3.out.mono hb.size fun b o hlt h => StrsAt.keep hb _ _ _ hlt h)
                clear hb
                generalize (wz.alloc (.cells #[.int .i64 1, .int .i64 (n.tmod 1000), .string ⟨#[]⟩, .slice none 0 0, .slice none 0 0] 32)) = w15 at *
                have X23 := X23n
                clear X23n
                go_upto_region 31 with fail
                have hb := (Below.refl _ w15).alloc (Nat.le_refl _) (.cells #[.int .i64 3, .int .i64 0, .string ⟨#[]⟩, .slice none 0 0, .slice none 0 0] 32)
                have X24n := Lib.hid (heap_alloc_new w15 (.cells #[.int .i64 3, .int .i64 0, .string ⟨#[]⟩, .slice none 0 0, .slice none 0 0] 32))
                replace HV := Lib.hid (HV.out.trans (hb.mono HV.out.size))
                replace X5 := Lib.hid (bget' hb X5.out)
                replace X7 := Lib.hid (bget' hb X7.out)
                replace X15 := Lib.hid (bget' hb X15.out)
                replace X23 := Lib.hid (bget' hb X23.out)
                replace HT := Lib.hid (TmAt.keep hb hb.size _ _ HT.out)
                replace HQ := Lib.hid (TmAt.keep hb hb.size _ _ HQ.out)
                replace Hvx := Lib.hid (TmAt.keep hb hb.size _ _ Hvx.out)
                replace HS1 := Lib.hid (HS1.out.mono hb.size fun b o hlt h => StrsAt.keep hb _ _ _ hlt h)
                replace HS2 := Lib.hid (HS2.out.mono hb.size fun b o hlt h => StrsAt.keep hb _ _ _ hlt h)
                replace HS3 := Lib.hid (HS3.out.mono hb.size fun b o hlt h => StrsAt.keep hb _ _ _ hlt h)
                clear hb
                generalize (w15.alloc (.cells #[.int .i64 3, .int .i64 0, .string ⟨#[]⟩, .slice none 0 0, .slice none 0 0] 32)) = w16 at *
                have X24 := X24n
                clear X24n
                have HL1 := oneM (n.tmod 1000) (Int.lt_tmod_of_pos n (by decide)) (Int.tmod_lt_of_pos n (by decide))
                have HL2 := twoM
                by_cases hso : (s.toList == o.toList) = true
                · skip
                  go_wp2_with fail
                  refine (known_any _).mono ?_
                  rintro e wk ⟨rfl, hb⟩
                  replace HV := Lib.hid (HV.out.trans (hb.mono HV.out.size))
                  clear hb
                  go_wp2
                  go_ret
                  exact ⟨rfl, HV.out⟩
                have hso' : (s.toList == o.toList) = false := by simpa using hso
                have HNE := Lib.hid (show s.toList ≠ o.toList by simpa using hso)
                clear hso
                obtain ⟨A, hA⟩ : ∃ A, A = repM s (.mk 1 (n.tmod 1000) ⟨#[]⟩ [] []) t := ⟨_, rfl⟩
                obtain ⟨B, hB⟩ : ∃ B, B = repM o (.mk 3 0 ⟨#[]⟩ [] []) t := ⟨_, rfl⟩
                have HAB := Lib.hid (show termB A = true by rw [hA]; exact termB_rep s _ t HL1.fits HL1.kids HTB.out)
                have HBB := Lib.hid (show termB B = true by rw [hB]; exact termB_rep o _ t HL2.fits HL2.kids HTB.out)
                have HAF : Fit A := by rw [hA]; exact rep_fit HL1 HTB.out HF
                have HBF : Fit B := by rw [hB]; exact rep_fit HL2 HTB.out HF
                obtain ⟨C, hC⟩ : ∃ C, C = repM o (.mk 3 0 ⟨#[]⟩ [] []) A := ⟨_, rfl⟩
                have hD : repM s (.mk 1 (n.tmod 1000) ⟨#[]⟩ [] []) B = C := by
                  rw [hC, hA, hB]
                  exact (rep_comm s o _ _ HNE.out (rep_leaf _ _ _ _ _ _ (by decide)) (rep_leaf _ _ _ _ _ _ (by decide)) t).symm
                have HEA := Lib.hid hA; have HEB := Lib.hid hB; have HEC := Lib.hid hC; have HED := Lib.hid hD
                clear hA hB hC hD
                obtain ⟨c00, c01, c02, c03, c04⟩ := cells5 X5.out
                obtain ⟨c10, c11, c12, c13, c14⟩ := cells5 X23.out
                go_wp2_with fail
                refine (Subst_any s (.mk 1 (n.tmod 1000) ⟨#[]⟩ [] []) t _ _ w16 (by unfold maxLen; omega) HT.out (leaf_at _ _ _ _) HF HL1.fit).mono ?_
                rintro e w17 ⟨he, hb⟩
                replace HV := Lib.hid (HV.out.trans (hb.mono HV.out.size))
                replace X5 := Lib.hid (bget' hb X5.out)
                replace X7 := Lib.hid (bget' hb X7.out)
                replace X15 := Lib.hid (bget' hb X15.out)
                replace X23 := Lib.hid (bget' hb X23.out)
                replace X24 := Lib.hid (bget' hb X24.out)
                replace HT := Lib.hid (TmAt.keep hb hb.size _ _ HT.out)
                replace HQ := Lib.hid (TmAt.keep hb hb.size _ _ HQ.out)
                replace Hvx := Lib.hid (TmAt.keep hb hb.size _ _ Hvx.out)
                replace HS1 := Lib.hid (HS1.out.mono hb.size fun b o hlt h => StrsAt.keep hb _ _ _ hlt h)
                replace HS2 := Lib.hid (HS2.out.mono hb.size fun b o hlt h => StrsAt.keep hb _ _ _ hlt h)
                replace HS3 := Lib.hid (HS3.out.mono hb.size fun b o hlt h => StrsAt.keep hb _ _ _ hlt h)
                obtain ⟨va, rfl, hva⟩ := SubstEnd.leaf he HL1 HTB.out HF HNS.out
                rw [← HEA.out] at hva
                have Hva := Lib.hid hva
                clear hva
                obtain ⟨vaa, vab, vac, vad, rfl, -⟩ := Hva.out.parts
                clear hb
                clear c00 c01 c02 c03 c04 c10 c11 c12 c13 c14
                go_upto_region 34 with fail
                have hb := (Below.refl _ w17).alloc (Nat.le_refl _) (.cells #[.int .i64 A.op, .int .i64 A.n, .string A.text, .slice vaa A.kids.length vab, .slice vac A.pats.length vad] 32)
                have X25n := Lib.hid (heap_alloc_new w17 (.cells #[.int .i64 A.op, .int .i64 A.n, .string A.text, .slice vaa A.kids.length vab, .slice vac A.pats.length vad] 32))
                replace HV := Lib.hid (HV.out.trans (hb.mono HV.out.size))
                replace X5 := Lib.hid (bget' hb X5.out)
                replace X7 := Lib.hid (bget' hb X7.out)
                replace X15 := Lib.hid (bget' hb X15.out)
                replace X23 := Lib.hid (bget' hb X23.out)
                replace X24 := Lib.hid (bget' hb X24.out)
                replace HT := Lib.hid (TmAt.keep hb hb.size _ _ HT.out)
                replace HQ := Lib.hid (TmAt.keep hb hb.size _ _ HQ.out)
                replace Hvx := Lib.hid (TmAt.keep hb hb.size _ _ Hvx.out)
                replace Hva := Lib.hid (TmAt.keep hb hb.size _ _ Hva.out)
                replace HS1 := Lib.hid (HS1.out.mono hb.size fun b o hlt h => StrsAt.keep hb _ _ _ hlt h)
                replace HS2 := Lib.hid (HS2.out.mono hb.size fun b o hlt h => StrsAt.keep hb _ _ _ hlt h)
                replace HS3 := Lib.hid (HS3.out.mono hb.size fun b o hlt h => StrsAt.keep hb _ _ _ hlt h)
                clear hb
                generalize (w17.alloc (.cells #[.int .i64 A.op, .int .i64 A.n, .string A.text, .slice vaa A.kids.length vab, .slice vac A.pats.length vad] 32)) = w18 at *
                have X25 := X25n
                clear X25n
                obtain ⟨c00, c01, c02, c03, c04⟩ := cells5 X5.out
                obtain ⟨c10, c11, c12, c13, c14⟩ := cells5 X24.out
                go_wp2_with fail
                refine (Subst_any o (.mk 3 0 ⟨#[]⟩ [] []) t _ _ w18 (by unfold maxLen; omega) HT.out (leaf_at _ _ _ _) HF HL2.fit).mono ?_
                rintro e w19 ⟨he, hb⟩
                replace HV := Lib.hid (HV.out.trans (hb.mono HV.out.size))
                replace X5 := Lib.hid (bget' hb X5.out)
                replace X7 := Lib.hid (bget' hb X7.out)
                replace X15 := Lib.hid (bget' hb X15.out)
                replace X23 := Lib.hid (bget' hb X23.out)
                replace X24 := Lib.hid (bget' hb X24.out)
                replace X25 := Lib.hid (bget' hb X25.out)
                replace HT := Lib.hid (TmAt.keep hb hb.size _ _ HT.out)
                replace HQ := Lib.hid (TmAt.keep hb hb.size _ _ HQ.out)
                replace Hvx := Lib.hid (TmAt.keep hb hb.size _ _ Hvx.out)
                replace Hva := Lib.hid (TmAt.keep hb hb.size _ _ Hva.out)
                replace HS1 := Lib.hid (HS1.out.mono hb.size fun b o hlt h => StrsAt.keep hb _ _ _ hlt h)
                replace HS2 := Lib.hid (HS2.out.mono hb.size fun b o hlt h => StrsAt.keep hb _ _ _ hlt h)
                replace HS3 := Lib.hid (HS3.out.mono hb.size fun b o hlt h => StrsAt.keep hb _ _ _ hlt h)
                obtain ⟨vb, rfl, hvb⟩ := SubstEnd.leaf he HL2 HTB.out HF HNO.out
                rw [← HEB.out] at hvb
                have Hvb := Lib.hid hvb
                clear hvb
                obtain ⟨vba, vbb, vbc, vbd, rfl, -⟩ := Hvb.out.parts
                clear hb
                clear c00 c01 c02 c03 c04 c10 c11 c12 c13 c14
                go_upto_region 35 with fail
                have hb := (Below.refl _ w19).alloc (Nat.le_refl _) (.cells #[.int .i64 B.op, .int .i64 B.n, .string B.text, .slice vba B.kids.length vbb, .slice vbc B.pats.length vbd] 32)
                have X27n := Lib.hid (heap_alloc_new w19 (.cells #[.int .i64 B.op, .int .i64 B.n, .string B.text, .slice vba B.kids.length vbb, .slice vbc B.pats.length vbd] 32))
                replace HV := Lib.hid (HV.out.trans (hb.mono HV.out.size))
                replace X5 := Lib.hid (bget' hb X5.out)
                replace X7 := Lib.hid (bget' hb X7.out)
                replace X15 := Lib.hid (bget' hb X15.out)
                replace X23 := Lib.hid (bget' hb X23.out)
                replace X24 := Lib.hid (bget' hb X24.out)
                replace X25 := Lib.hid (bget' hb X25.out)
                replace HT := Lib.hid (TmAt.keep hb hb.size _ _ HT.out)
                replace HQ := Lib.hid (TmAt.keep hb hb.size _ _ HQ.out)
                replace Hvx := Lib.hid (TmAt.keep hb hb.size _ _ Hvx.out)
                replace Hva := Lib.hid (TmAt.keep hb hb.size _ _ Hva.out)
                replace Hvb := Lib.hid (TmAt.keep hb hb.size _ _ Hvb.out)
                replace HS1 := Lib.hid (HS1.out.mono hb.size fun b o hlt h => StrsAt.keep hb _ _ _ hlt h)
                replace HS2 := Lib.hid (HS2.out.mono hb.size fun b o hlt h => StrsAt.keep hb _ _ _ hlt h)
                replace HS3 := Lib.hid (HS3.out.mono hb.size fun b o hlt h => StrsAt.keep hb _ _ _ hlt h)
                clear hb
                generalize (w19.alloc (.cells #[.int .i64 B.op, .int .i64 B.n, .string B.text, .slice vba B.kids.length vbb, .slice vbc B.pats.length vbd] 32)) = w20 at *
                have X27 := X27n
                clear X27n
                obtain ⟨c00, c01, c02, c03, c04⟩ := cells5 X25.out
                obtain ⟨c10, c11, c12, c13, c14⟩ := cells5 X24.out
                go_wp2_with fail
                refine (Subst_any o (.mk 3 0 ⟨#[]⟩ [] []) A _ _ w20 (by unfold maxLen; omega) Hva.out (leaf_at _ _ _ _) HAF HL2.fit).mono ?_
                rintro e w21 ⟨he, hb⟩
                replace HV := Lib.hid (HV.out.trans (hb.mono HV.out.size))
                replace X5 := Lib.hid (bget' hb X5.out)
                replace X7 := Lib.hid (bget' hb X7.out)
                replace X15 := Lib.hid (bget' hb X15.out)
                replace X23 := Lib.hid (bget' hb X23.out)
                replace X24 := Lib.hid (bget' hb X24.out)
                replace X25 := Lib.hid (bget' hb X25.out)
                replace X27 := Lib.hid (bget' hb X27.out)
                replace HT := Lib.hid (TmAt.keep hb hb.size _ _ HT.out)
                replace HQ := Lib.hid (TmAt.keep hb hb.size _ _ HQ.out)
                replace Hvx := Lib.hid (TmAt.keep hb hb.size _ _ Hvx.out)
                replace Hva := Lib.hid (TmAt.keep hb hb.size _ _ Hva.out)
                replace Hvb := Lib.hid (TmAt.keep hb hb.size _ _ Hvb.out)
                replace HS1 := Lib.hid (HS1.out.mono hb.size fun b o hlt h => StrsAt.keep hb _ _ _ hlt h)
                replace HS2 := Lib.hid (HS2.out.mono hb.size fun b o hlt h => StrsAt.keep hb _ _ _ hlt h)
                replace HS3 := Lib.hid (HS3.out.mono hb.size fun b o hlt h => StrsAt.keep hb _ _ _ hlt h)
                obtain ⟨vc, rfl, hvc⟩ := SubstEnd.leaf he HL2 HAB.out HAF HNO.out
                rw [← HEC.out] at hvc
                have Hvc := Lib.hid hvc
                clear hvc
                obtain ⟨vca, vcb, vcc, vcd, rfl, -⟩ := Hvc.out.parts
                clear hb
                clear c00 c01 c02 c03 c04 c10 c11 c12 c13 c14
                go_upto_region 38 with fail
                have hb := (Below.refl _ w21).alloc (Nat.le_refl _) (.cells #[.int .i64 C.op, .int .i64 C.n, .string C.text, .slice vca C.kids.length vcb, .slice vcc C.pats.length vcd] 32)
                have X29n := Lib.hid (heap_alloc_new w21 (.cells #[.int .i64 C.op, .int .i64 C.n, .string C.text, .slice vca C.kids.length vcb, .slice vcc C.pats.length vcd] 32))
                replace HV := Lib.hid (HV.out.trans (hb.mono HV.out.size))
                replace X5 := Lib.hid (bget' hb X5.out)
                replace X7 := Lib.hid (bget' hb X7.out)
                replace X15 := Lib.hid (bget' hb X15.out)
                replace X23 := Lib.hid (bget' hb X23.out)
                replace X24 := Lib.hid (bget' hb X24.out)
                replace X25 := Lib.hid (bget' hb X25.out)
                replace X27 := Lib.hid (bget' hb X27.out)
                replace HT := Lib.hid (TmAt.keep hb hb.size _ _ HT.out)
                replace HQ := Lib.hid (TmAt.keep hb hb.size _ _ HQ.out)
                replace Hvx := Lib.hid (TmAt.keep hb hb.size _ _ Hvx.out)
                replace Hva := Lib.hid (TmAt.keep hb hb.size _ _ Hva.out)
                replace Hvb := Lib.hid (TmAt.keep hb hb.size _ _ Hvb.out)
                replace Hvc := Lib.hid (TmAt.keep hb hb.size _ _ Hvc.out)
                replace HS1 := Lib.hid (HS1.out.mono hb.size fun b o hlt h => StrsAt.keep hb _ _ _ hlt h)
                replace HS2 := Lib.hid (HS2.out.mono hb.size fun b o hlt h => StrsAt.keep hb _ _ _ hlt h)
                replace HS3 := Lib.hid (HS3.out.mono hb.size fun b o hlt h => StrsAt.keep hb _ _ _ hlt h)
                clear hb
                generalize (w21.alloc (.cells #[.int .i64 C.op, .int .i64 C.n, .string C.text, .slice vca C.kids.length vcb, .slice vcc C.pats.length vcd] 32)) = w22 at *
                have X29 := X29n
                clear X29n
                obtain ⟨c00, c01, c02, c03, c04⟩ := cells5 X27.out
                obtain ⟨c10, c11, c12, c13, c14⟩ := cells5 X23.out
                go_wp2_with fail
                refine (Subst_any s (.mk 1 (n.tmod 1000) ⟨#[]⟩ [] []) B _ _ w22 (by unfold maxLen; omega) Hvb.out (leaf_at _ _ _ _) HBF HL1.fit).mono ?_
                rintro e w23 ⟨he, hb⟩
                replace HV := Lib.hid (HV.out.trans (hb.mono HV.out.size))
                replace X5 := Lib.hid (bget' hb X5.out)
                replace X7 := Lib.hid (bget' hb X7.out)
                replace X15 := Lib.hid (bget' hb X15.out)
                replace X23 := Lib.hid (bget' hb X23.out)
                replace X24 := Lib.hid (bget' hb X24.out)
                replace X25 := Lib.hid (bget' hb X25.out)
                replace X27 := Lib.hid (bget' hb X27.out)
                replace X29 := Lib.hid (bget' hb X29.out)
                replace HT := Lib.hid (TmAt.keep hb hb.size _ _ HT.out)
                replace HQ := Lib.hid (TmAt.keep hb hb.size _ _ HQ.out)
                replace Hvx := Lib.hid (TmAt.keep hb hb.size _ _ Hvx.out)
                replace Hva := Lib.hid (TmAt.keep hb hb.size _ _ Hva.out)
                replace Hvb := Lib.hid (TmAt.keep hb hb.size _ _ Hvb.out)
                replace Hvc := Lib.hid (TmAt.keep hb hb.size _ _ Hvc.out)
                replace HS1 := Lib.hid (HS1.out.mono hb.size fun b o hlt h => StrsAt.keep hb _ _ _ hlt h)
                replace HS2 := Lib.hid (HS2.out.mono hb.size fun b o hlt h => StrsAt.keep hb _ _ _ hlt h)
                replace HS3 := Lib.hid (HS3.out.mono hb.size fun b o hlt h => StrsAt.keep hb _ _ _ hlt h)
                obtain ⟨vd, rfl, hvd⟩ := SubstEnd.leaf he HL1 HBB.out HBF HNS.out
                rw [HED.out] at hvd
                have Hvd := Lib.hid hvd
                clear hvd
                obtain ⟨vda, vdb, vdc, vdd, rfl, -⟩ := Hvd.out.parts
                clear hb
                clear c00 c01 c02 c03 c04 c10 c11 c12 c13 c14
                go_upto_region 39 with fail
                have hb := (Below.refl _ w23).alloc (Nat.le_refl _) (.cells #[.int .i64 C.op, .int .i64 C.n, .string C.text, .slice vda C.kids.length vdb, .slice vdc C.pats.length vdd] 32)
                have X31n := Lib.hid (heap_alloc_new w23 (.cells #[.int .i64 C.op, .int .i64 C.n, .string C.text, .slice vda C.kids.length vdb, .slice vdc C.pats.length vdd] 32))
                replace HV := Lib.hid (HV.out.trans (hb.mono HV.out.size))
                replace X5 := Lib.hid (bget' hb X5.out)
                replace X7 := Lib.hid (bget' hb X7.out)
                replace X15 := Lib.hid (bget' hb X15.out)
                replace X23 := Lib.hid (bget' hb X23.out)
                replace X24 := Lib.hid (bget' hb X24.out)
                replace X25 := Lib.hid (bget' hb X25.out)
                replace X27 := Lib.hid (bget' hb X27.out)
                replace X29 := Lib.hid (bget' hb X29.out)
                replace HT := Lib.hid (TmAt.keep hb hb.size _ _ HT.out)
                replace HQ := Lib.hid (TmAt.keep hb hb.size _ _ HQ.out)
                replace Hvx := Lib.hid (TmAt.keep hb hb.size _ _ Hvx.out)
                replace Hva := Lib.hid (TmAt.keep hb hb.size _ _ Hva.out)
                replace Hvb := Lib.hid (TmAt.keep hb hb.size _ _ Hvb.out)
                replace Hvc := Lib.hid (TmAt.keep hb hb.size _ _ Hvc.out)
                replace Hvd := Lib.hid (TmAt.keep hb hb.size _ _ Hvd.out)
                replace HS1 := Lib.hid (HS1.out.mono hb.size fun b o hlt h => StrsAt.keep hb _ _ _ hlt h)
                replace HS2 := Lib.hid (HS2.out.mono hb.size fun b o hlt h => StrsAt.keep hb _ _ _ hlt h)
                replace HS3 := Lib.hid (HS3.out.mono hb.size fun b o hlt h => StrsAt.keep hb _ _ _ hlt h)
                clear hb
                generalize (w23.alloc (.cells #[.int .i64 C.op, .int .i64 C.n, .string C.text, .slice vda C.kids.length vdb, .slice vdc C.pats.length vdd] 32)) = w24 at *
                have X31 := X31n
                clear X31n
                obtain ⟨c00, c01, c02, c03, c04⟩ := cells5 X29.out
                obtain ⟨c10, c11, c12, c13, c14⟩ := cells5 X31.out
                go_wp2_with fail
                refine (Same_any C C _ _ w24 Hvc.out Hvd.out).mono ?_
                rintro e w25 ⟨rfl, hb⟩
                replace HV := Lib.hid (HV.out.trans (hb.mono HV.out.size))
                replace X5 := Lib.hid (bget' hb X5.out)
                replace X7 := Lib.hid (bget' hb X7.out)
                replace X15 := Lib.hid (bget' hb X15.out)
                replace X23 := Lib.hid (bget' hb X23.out)
                replace X24 := Lib.hid (bget' hb X24.out)
                replace X25 := Lib.hid (bget' hb X25.out)
                replace X27 := Lib.hid (bget' hb X27.out)
                replace X29 := Lib.hid (bget' hb X29.out)
                replace X31 := Lib.hid (bget' hb X31.out)
                replace HT := Lib.hid (TmAt.keep hb hb.size _ _ HT.out)
                replace HQ := Lib.hid (TmAt.keep hb hb.size _ _ HQ.out)
                replace Hvx := Lib.hid (TmAt.keep hb hb.size _ _ Hvx.out)
                replace Hva := Lib.hid (TmAt.keep hb hb.size _ _ Hva.out)
                replace Hvb := Lib.hid (TmAt.keep hb hb.size _ _ Hvb.out)
                replace Hvc := Lib.hid (TmAt.keep hb hb.size _ _ Hvc.out)
                replace Hvd := Lib.hid (TmAt.keep hb hb.size _ _ Hvd.out)
                replace HS1 := Lib.hid (HS1.out.mono hb.size fun b o hlt h => StrsAt.keep hb _ _ _ hlt h)
                replace HS2 := Lib.hid (HS2.out.mono hb.size fun b o hlt h => StrsAt.keep hb _ _ _ hlt h)
                replace HS3 := Lib.hid (HS3.out.mono hb.size fun b o hlt h => StrsAt.keep hb _ _ _ hlt h)
                rw [eqM_refl]
                clear hb
                clear c00 c01 c02 c03 c04 c10 c11 c12 c13 c14
                go_wp2_with fail
                refine (known_any _).mono ?_
                rintro e wk ⟨rfl, hb⟩
                replace HV := Lib.hid (HV.out.trans (hb.mono HV.out.size))
                clear hb
                go_wp2
                go_ret
                exact ⟨rfl, HV.out⟩
  | true =>
    have HIS := Lib.hid hisv; clear hisv
    have his := HIS.out
    go_wp2_with fail
    go_loopw [20] (fun i wr => ∃ k : Nat, k ≤ (freeL x).length ∧ i = .int .i64 k ∧ Below w12.heap.size w12 wr) (fun i _ => (freeL x).length - (intOf i).toNat)
    case atStart => exact ⟨0, Nat.zero_le _, rfl, Below.refl _ _⟩
    case round =>
      obtain ⟨k, hk, rfl, hb⟩ := hrel
      have HB0 := Lib.hid hb
      replace HV := Lib.hid (HV.out.trans (hb.mono HV.out.size))
      replace X5 := Lib.hid (bget' hb X5.out)
      replace X7 := Lib.hid (bget' hb X7.out)
      replace X15 := Lib.hid (bget' hb X15.out)
      replace HT := Lib.hid (TmAt.keep hb hb.size _ _ HT.out)
      replace HQ := Lib.hid (TmAt.keep hb hb.size _ _ HQ.out)
      replace Hvx := Lib.hid (TmAt.keep hb hb.size _ _ Hvx.out)
      replace HS1 := Lib.hid (HS1.out.mono hb.size fun b o hlt h => StrsAt.keep hb _ _ _ hlt h)
      replace HS2 := Lib.hid (HS2.out.mono hb.size fun b o hlt h => StrsAt.keep hb _ _ _ hlt h)
      replace HS3 := Lib.hid (HS3.out.mono hb.size fun b o hlt h => StrsAt.keep hb _ _ _ hlt h)
      clear hb
      by_cases hlt : k < (freeL x).length
      · have hlt' : (k : Int) < ((freeL x).length : Int) := by omega
        obtain ⟨la, lc, hsl, -, -, hka⟩ := HS3.out.split
        obtain ⟨kb, ko, hke, hkbn, hss⟩ := hka (by omega)
        simp only [Value.slice.injEq, true_and] at hsl
        obtain ⟨rfl, rfl⟩ := hsl
        subst hke
        have hcell := (StrsAt.get _ kb ko hss k hlt).1
        clear hka hss
        have hfx := (HSF.out _).1 (free_mem hlt)
        generalize (freeL x)[k] = y at *
        have HY := Lib.hid hfx; clear hfx
        cases hwas : hasB (freeL t) y with
        | true =>
          go_wp2_with fail
          refine (Has_any (freeL t) _ y wr HS1.out).mono ?_
          rintro e u13 ⟨rfl, hb⟩
          rw [hwas]
          replace HB0 := Lib.hid (HB0.out.trans (hb.mono HB0.out.size))
          replace HV := Lib.hid (HV.out.trans (hb.mono HV.out.size))
          replace X5 := Lib.hid (bget' hb X5.out)
          replace X7 := Lib.hid (bget' hb X7.out)
          replace X15 := Lib.hid (bget' hb X15.out)
          replace HT := Lib.hid (TmAt.keep hb hb.size _ _ HT.out)
          replace HQ := Lib.hid (TmAt.keep hb hb.size _ _ HQ.out)
          replace Hvx := Lib.hid (TmAt.keep hb hb.size _ _ Hvx.out)
          replace HS1 := Lib.hid (HS1.out.mono hb.size fun b o hlt h => StrsAt.keep hb _ _ _ hlt h)
          replace HS2 := Lib.hid (HS2.out.mono hb.size fun b o hlt h => StrsAt.keep hb _ _ _ hlt h)
          replace HS3 := Lib.hid (HS3.out.mono hb.size fun b o hlt h => StrsAt.keep hb _ _ _ hlt h)
          have hcell' := (hb.cell (p := ⟨kb, _, none⟩) hkbn).trans hcell
          have hkbn' := Nat.lt_of_lt_of_le hkbn hb.size
          clear hcell hkbn hb
          have hcell := hcell'; have hkbn := hkbn'
          clear hcell' hkbn'
          by_cases hys : (y.toList == s.toList) = true
          · have hoy : hasB (freeL q) y = true := (hasB_free q y).2 (by
              rcases HY.out with h | h
              · exact absurd (by simpa using hys) h.2
              · exact h.2)
            clear HY hwas
            go_wp2_with fail
            refine (Has_any (freeL q) _ y u13 HS2.out).mono ?_
            rintro e u14 ⟨rfl, hb⟩
            rw [hoy]
            replace HB0 := Lib.hid (HB0.out.trans (hb.mono HB0.out.size))
            replace HV := Lib.hid (HV.out.trans (hb.mono HV.out.size))
            replace X5 := Lib.hid (bget' hb X5.out)
            replace X7 := Lib.hid (bget' hb X7.out)
            replace X15 := Lib.hid (bget' hb X15.out)
            replace HT := Lib.hid (TmAt.keep hb hb.size _ _ HT.out)
            replace HQ := Lib.hid (TmAt.keep hb hb.size _ _ HQ.out)
            replace Hvx := Lib.hid (TmAt.keep hb hb.size _ _ Hvx.out)
            replace HS1 := Lib.hid (HS1.out.mono hb.size fun b o hlt h => StrsAt.keep hb _ _ _ hlt h)
            replace HS2 := Lib.hid (HS2.out.mono hb.size fun b o hlt h => StrsAt.keep hb _ _ _ hlt h)
            replace HS3 := Lib.hid (HS3.out.mono hb.size fun b o hlt h => StrsAt.keep hb _ _ _ hlt h)
            have hcell' := (hb.cell (p := ⟨kb, _, none⟩) hkbn).trans hcell
            have hkbn' := Nat.lt_of_lt_of_le hkbn hb.size
            clear hcell hkbn hb
            have hcell := hcell'; have hkbn := hkbn'
            clear hcell' hkbn'
            go_wp2
            go_roundw
            case rel => exact ⟨k + 1, by omega, by go_num, HB0.out⟩
            case measure => simp [intOf]; omega
          · have hys' : (y.toList == s.toList) = false := by simpa using hys
            clear HY hwas hys
            go_wp2
            go_roundw
            case rel => exact ⟨k + 1, by omega, by go_num, HB0.out⟩
            case measure => simp [intOf]; omega
        | false =>
          have hoo : FVs t s.toList ∧ FVs q y.toList := by
            rcases HY.out with h | h
            · rw [(hasB_free t y).2 h.1] at hwas; cases hwas
            · exact h
          have hoy : hasB (freeL q) y = true := (hasB_free q y).2 hoo.2
          clear HY hoo
          go_wp2_with fail
          refine (Has_any (freeL t) _ y wr HS1.out).mono ?_
          rintro e u13 ⟨rfl, hb⟩
          rw [hwas]
          replace HB0 := Lib.hid (HB0.out.trans (hb.mono HB0.out.size))
          replace HV := Lib.hid (HV.out.trans (hb.mono HV.out.size))
          replace X5 := Lib.hid (bget' hb X5.out)
          replace X7 := Lib.hid (bget' hb X7.out)
          replace X15 := Lib.hid (bget' hb X15.out)
          replace HT := Lib.hid (TmAt.keep hb hb.size _ _ HT.out)
          replace HQ := Lib.hid (TmAt.keep hb hb.size _ _ HQ.out)
          replace Hvx := Lib.hid (TmAt.keep hb hb.size _ _ Hvx.out)
          replace HS1 := Lib.hid (HS1.out.mono hb.size fun b o hlt h => StrsAt.keep hb _ _ _ hlt h)
          replace HS2 := Lib.hid (HS2.out.mono hb.size fun b o hlt h => StrsAt.keep hb _ _ _ hlt h)
          replace HS3 := Lib.hid (HS3.out.mono hb.size fun b o hlt h => StrsAt.keep hb _ _ _ hlt h)
          have hcell' := (hb.cell (p := ⟨kb, _, none⟩) hkbn).trans hcell
          have hkbn' := Nat.lt_of_lt_of_le hkbn hb.size
          clear hcell hkbn hb
          have hcell := hcell'; have hkbn := hkbn'
          clear hcell' hkbn'
          go_wp2_with fail
          refine (Has_any (freeL q) _ y u13 HS2.out).mono ?_
          rintro e u14 ⟨rfl, hb⟩
          rw [hoy]
          replace HB0 := Lib.hid (HB0.out.trans (hb.mono HB0.out.size))
          replace HV := Lib.hid (HV.out.trans (hb.mono HV.out.size))
          replace X5 := Lib.hid (bget' hb X5.out)
          replace X7 := Lib.hid (bget' hb X7.out)
          replace X15 := Lib.hid (bget' hb X15.out)
          replace HT := Lib.hid (TmAt.keep hb hb.size _ _ HT.out)
          replace HQ := Lib.hid (TmAt.keep hb hb.size _ _ HQ.out)
          replace Hvx := Lib.hid (TmAt.keep hb hb.size _ _ Hvx.out)
          replace HS1 := Lib.hid (HS1.out.mono hb.size fun b o hlt h => StrsAt.keep hb _ _ _ hlt h)
          replace HS2 := Lib.hid (HS2.out.mono hb.size fun b o hlt h => StrsAt.keep hb _ _ _ hlt h)
          replace HS3 := Lib.hid (HS3.out.mono hb.size fun b o hlt h => StrsAt.keep hb _ _ _ hlt h)
          have hcell' := (hb.cell (p := ⟨kb, _, none⟩) hkbn).trans hcell
          have hkbn' := Nat.lt_of_lt_of_le hkbn hb.size
          clear hcell hkbn hb
          have hcell := hcell'; have hkbn := hkbn'
          clear hcell' hkbn'
          go_wp2
          go_roundw
          case rel => exact ⟨k + 1, by omega, by go_num, HB0.out⟩
          case measure => simp [intOf]; omega
      · obtain rfl : k = (freeL x).length := by omega
        clear hk HB0
        generalize wr = wc13 at *
        go_wp2_with fail
        go_loopw [21] (fun i wr => ∃ k : Nat, k ≤ (freeL t).length ∧ i = .int .i64 k ∧ Below wc13.heap.size wc13 wr) (fun i _ => (freeL t).length - (intOf i).toNat)
        case atStart => exact ⟨0, Nat.zero_le _, rfl, Below.refl _ _⟩
        case round =>
          obtain ⟨k, hk, rfl, hb⟩ := hrel
          have HB0 := Lib.hid hb
          replace HV := Lib.hid (HV.out.trans (hb.mono HV.out.size))
          replace X5 := Lib.hid (bget' hb X5.out)
          replace X7 := Lib.hid (bget' hb X7.out)
          replace X15 := Lib.hid (bget' hb X15.out)
          replace HT := Lib.hid (TmAt.keep hb hb.size _ _ HT.out)
          replace HQ := Lib.hid (TmAt.keep hb hb.size _ _ HQ.out)
          replace Hvx := Lib.hid (TmAt.keep hb hb.size _ _ Hvx.out)
          replace HS1 := Lib.hid (HS1.out.mono hb.size fun b o hlt h => StrsAt.keep hb _ _ _ hlt h)
          replace HS2 := Lib.hid (HS2.out.mono hb.size fun b o hlt h => StrsAt.keep hb _ _ _ hlt h)
          replace HS3 := Lib.hid (HS3.out.mono hb.size fun b o hlt h => StrsAt.keep hb _ _ _ hlt h)
          clear hb
          by_cases hlt : k < (freeL t).length
          · have hlt' : (k : Int) < ((freeL t).length : Int) := by omega
            obtain ⟨la, lc, hsl, -, -, hka⟩ := HS1.out.split
            obtain ⟨kb, ko, hke, hkbn, hss⟩ := hka (by omega)
            simp only [Value.slice.injEq, true_and] at hsl
            obtain ⟨rfl, rfl⟩ := hsl
            subst hke
            have hcell := (StrsAt.get _ kb ko hss k hlt).1
            clear hka hss
            have hfx := free_mem hlt
            generalize (freeL t)[k] = y at *
            by_cases hys : (y.toList == s.toList) = true
            · skip
              clear hfx
              go_wp2
              go_roundw
              case rel => exact ⟨k + 1, by omega, by go_num, HB0.out⟩
              case measure => simp [intOf]; omega
            · have hys' : (y.toList == s.toList) = false := by simpa using hys
              have hoy : hasB (freeL x) y = true := (hasB_free x y).2 ((HSF.out _).2 (.inl ⟨hfx, by simpa using hys⟩))
              clear hfx hys
              go_wp2_with fail
              refine (Has_any (freeL x) _ y wr HS3.out).mono ?_
              rintro e u14 ⟨rfl, hb⟩
              rw [hoy]
              replace HB0 := Lib.hid (HB0.out.trans (hb.mono HB0.out.size))
              replace HV := Lib.hid (HV.out.trans (hb.mono HV.out.size))
              replace X5 := Lib.hid (bget' hb X5.out)
              replace X7 := Lib.hid (bget' hb X7.out)
              replace X15 := Lib.hid (bget' hb X15.out)
              replace HT := Lib.hid (TmAt.keep hb hb.size _ _ HT.out)
              replace HQ := Lib.hid (TmAt.keep hb hb.size _ _ HQ.out)
              replace Hvx := Lib.hid (TmAt.keep hb hb.size _ _ Hvx.out)
              replace HS1 := Lib.hid (HS1.out.mono hb.size fun b o hlt h => StrsAt.keep hb _ _ _ hlt h)
              replace HS2 := Lib.hid (HS2.out.mono hb.size fun b o hlt h => StrsAt.keep hb _ _ _ hlt h)
              replace HS3 := Lib.hid (HS3.out.mono hb.size fun b o hlt h => StrsAt.keep hb _ _ _ hlt h)
              have hcell' := (hb.cell (p := ⟨kb, _, none⟩) hkbn).trans hcell
              have hkbn' := Nat.lt_of_lt_of_le hkbn hb.size
              clear hcell hkbn hb
              have hcell := hcell'; have hkbn := hkbn'
              clear hcell' hkbn'
              go_wp2
              go_roundw
              case rel => exact ⟨k + 1, by omega, by go_num, HB0.out⟩
              case measure => simp [intOf]; omega
          · obtain rfl : k = (freeL t).length := by omega
            clear hk HB0
            generalize wr = wc14 at *
            go_wp2_with fail
            go_loopw [22] (fun i wr => ∃ k : Nat, k ≤ (freeL q).length ∧ i = .int .i64 k ∧ Below wc14.heap.size wc14 wr) (fun i _ => (freeL q).length - (intOf i).toNat)
            case atStart => exact ⟨0, Nat.zero_le _, rfl, Below.refl _ _⟩
            case round =>
              obtain ⟨k, hk, rfl, hb⟩ := hrel
              have HB0 := Lib.hid hb
              replace HV := Lib.hid (HV.out.trans (hb.mono HV.out.size))
              replace X5 := Lib.hid (bget' hb X5.out)
              replace X7 := Lib.hid (bget' hb X7.out)
              replace X15 := Lib.hid (bget' hb X15.out)
              replace HT := Lib.hid (TmAt.keep hb hb.size _ _ HT.out)
              replace HQ := Lib.hid (TmAt.keep hb hb.size _ _ HQ.out)
              replace Hvx := Lib.hid (TmAt.keep hb hb.size _ _ Hvx.out)
              replace HS1 := Lib.hid (HS1.out.mono hb.size fun b o hlt h => StrsAt.keep hb _ _ _ hlt h)
              replace HS2 := Lib.hid (HS2.out.mono hb.size fun b o hlt h => StrsAt.keep hb _ _ _ hlt h)
              replace HS3 := Lib.hid (HS3.out.mono hb.size fun b o hlt h => StrsAt.keep hb _ _ _ hlt h)
              clear hb
              by_cases hlt : k < (freeL q).length
              · have hlt' : (k : Int) < ((freeL q).length : Int) := by omega
                obtain ⟨la, lc, hsl, -, -, hka⟩ := HS2.out.split
                obtain ⟨kb, ko, hke, hkbn, hss⟩ := hka (by omega)
                simp only [Value.slice.injEq, true_and] at hsl
                obtain ⟨rfl, rfl⟩ := hsl
                subst hke
                have hcell := (StrsAt.get _ kb ko hss k hlt).1
                clear hka hss
                have hfx := free_mem hlt
                generalize (freeL q)[k] = y at *
                have hoy : hasB (freeL x) y = true := (hasB_free x y).2 ((HSF.out _).2 (.inr ⟨(hasB_free t s).1 his, hfx⟩))
                clear hfx
                go_wp2_with fail
                refine (Has_any (freeL x) _ y wr HS3.out).mono ?_
                rintro e u15 ⟨rfl, hb⟩
                rw [hoy]
                replace HB0 := Lib.hid (HB0.out.trans (hb.mono HB0.out.size))
                replace HV := Lib.hid (HV.out.trans (hb.mono HV.out.size))
                replace X5 := Lib.hid (bget' hb X5.out)
                replace X7 := Lib.hid (bget' hb X7.out)
                replace X15 := Lib.hid (bget' hb X15.out)
                replace HT := Lib.hid (TmAt.keep hb hb.size _ _ HT.out)
                replace HQ := Lib.hid (TmAt.keep hb hb.size _ _ HQ.out)
                replace Hvx := Lib.hid (TmAt.keep hb hb.size _ _ Hvx.out)
                replace HS1 := Lib.hid (HS1.out.mono hb.size fun b o hlt h => StrsAt.keep hb _ _ _ hlt h)
                replace HS2 := Lib.hid (HS2.out.mono hb.size fun b o hlt h => StrsAt.keep hb _ _ _ hlt h)
                replace HS3 := Lib.hid (HS3.out.mono hb.size fun b o hlt h => StrsAt.keep hb _ _ _ hlt h)
                have hcell' := (hb.cell (p := ⟨kb, _, none⟩) hkbn).trans hcell
                have hkbn' := Nat.lt_of_lt_of_le hkbn hb.size
                clear hcell hkbn hb
                have hcell := hcell'; have hkbn := hkbn'
                clear hcell' hkbn'
                go_wp2
                go_roundw
                case rel => exact ⟨k + 1, by omega, by go_num, HB0.out⟩
                case measure => simp [intOf]; omega
              · obtain rfl : k = (freeL q).length := by omega
                clear hk HB0
                generalize wr = wc15 at *
                clear his
                go_upto_region 29 with fail
                go_upto_region 30 with fail
                have hb := (Below.refl _ wc15).alloc (Nat.le_refl _) (.cells #[.int .i64 1, .int .i64 (n.tmod 1000), .string ⟨#[]⟩, .slice none 0 0, .slice none 0 0] 32)
                have X23n := Lib.hid (heap_alloc_new wc15 (.cells #[.int .i64 1, .int .i64 (n.tmod 1000), .string ⟨#[]⟩, .slice none 0 0, .slice none 0 0] 32))
                replace HV := Lib.hid (HV.out.trans (hb.mono HV.out.size))
                replace X5 := Lib.hid (bget' hb X5.out)
                replace X7 := Lib.hid (bget' hb X7.out)
                replace X15 := Lib.hid (bget' hb X15.out)
                replace HT := Lib.hid (TmAt.keep hb hb.size _ _ HT.out)
                replace HQ := Lib.hid (TmAt.keep hb hb.size _ _ HQ.out)
                replace Hvx := Lib.hid (TmAt.keep hb hb.size _ _ Hvx.out)
                replace HS1 := Lib.hid (HS1.out.mono hb.size fun b o hlt h => StrsAt.keep hb _ _ _ hlt h)
                replace HS2 := Lib.hid (HS2.out.mono hb.size fun b o hlt h => StrsAt.keep hb _ _ _ hlt h)
                replace HS3 := Lib.hid (HS3.out.mono hb.size fun b o hlt h => StrsAt.keep hb _ _ _ hlt h)
                clear hb
                generalize (wc15.alloc (.cells #[.int .i64 1, .int .i64 (n.tmod 1000), .string ⟨#[]⟩, .slice none 0 0, .slice none 0 0] 32)) = w16 at *
                have X23 := X23n
                clear X23n
                go_upto_region 31 with fail
                have hb := (Below.refl _ w16).alloc (Nat.le_refl _) (.cells #[.int .i64 3, .int .i64 0, .string ⟨#[]⟩, .slice none 0 0, .slice none 0 0] 32)
                have X24n := Lib.hid (heap_alloc_new w16 (.cells #[.int .i64 3, .int .i64 0, .string ⟨#[]⟩, .slice none 0 0, .slice none 0 0] 32))
                replace HV := Lib.hid (HV.out.trans (hb.mono HV.out.size))
                replace X5 := Lib.hid (bget' hb X5.out)
                replace X7 := Lib.hid (bget' hb X7.out)
                replace X15 := Lib.hid (bget' hb X15.out)
                replace X23 := Lib.hid (bget' hb X23.out)
                replace HT := Lib.hid (TmAt.keep hb hb.size _ _ HT.out)
                replace HQ := Lib.hid (TmAt.keep hb hb.size _ _ HQ.out)
                replace Hvx := Lib.hid (TmAt.keep hb hb.size _ _ Hvx.out)
                replace HS1 := Lib.hid (HS1.out.mono hb.size fun b o hlt h => StrsAt.keep hb _ _ _ hlt h)
                replace HS2 := Lib.hid (HS2.out.mono hb.size fun b o hlt h => StrsAt.keep hb _ _ _ hlt h)
                replace HS3 := Lib.hid (HS3.out.mono hb.size fun b o hlt h => StrsAt.keep hb _ _ _ hlt h)
                clear hb
                generalize (w16.alloc (.cells #[.int .i64 3, .int .i64 0, .string ⟨#[]⟩, .slice none 0 0, .slice none 0 0] 32)) = w17 at *
                have X24 := X24n
                clear X24n
                have HL1 := oneM (n.tmod 1000) (Int.lt_tmod_of_pos n (by decide)) (Int.tmod_lt_of_pos n (by decide))
                have HL2 := twoM
                by_cases hso : (s.toList == o.toList) = true
                · skip
                  go_wp2_with fail
                  refine (known_any _).mono ?_
                  rintro e wk ⟨rfl, hb⟩
                  replace HV := Lib.hid (HV.out.trans (hb.mono HV.out.size))
                  clear hb
                  go_wp2
                  go_ret
                  exact ⟨rfl, HV.out⟩
                have hso' : (s.toList == o.toList) = false := by simpa using hso
                have HNE := Lib.hid (show s.toList ≠ o.toList by simpa using hso)
                clear hso
                obtain ⟨A, hA⟩ : ∃ A, A = repM s (.mk 1 (n.tmod 1000) ⟨#[]⟩ [] []) t := ⟨_, rfl⟩
                obtain ⟨B, hB⟩ : ∃ B, B = repM o (.mk 3 0 ⟨#[]⟩ [] []) t := ⟨_, rfl⟩
                have HAB := Lib.hid (show termB A = true by rw [hA]; exact termB_rep s _ t HL1.fits HL1.kids HTB.out)
                have HBB := Lib.hid (show termB B = true by rw [hB]; exact termB_rep o _ t HL2.fits HL2.kids HTB.out)
                have HAF : Fit A := by rw [hA]; exact rep_fit HL1 HTB.out HF
                have HBF : Fit B := by rw [hB]; exact rep_fit HL2 HTB.out HF
                obtain ⟨C, hC⟩ : ∃ C, C = repM o (.mk 3 0 ⟨#[]⟩ [] []) A := ⟨_, rfl⟩
                have hD : repM s (.mk 1 (n.tmod 1000) ⟨#[]⟩ [] []) B = C := by
                  rw [hC, hA, hB]
                  exact (rep_comm s o _ _ HNE.out (rep_leaf _ _ _ _ _ _ (by decide)) (rep_leaf _ _ _ _ _ _ (by decide)) t).symm
                have HEA := Lib.hid hA; have HEB := Lib.hid hB; have HEC := Lib.hid hC; have HED := Lib.hid hD
                clear hA hB hC hD
                obtain ⟨c00, c01, c02, c03, c04⟩ := cells5 X5.out
                obtain ⟨c10, c11, c12, c13, c14⟩ := cells5 X23.out
                go_wp2_with fail
                refine (Subst_any s (.mk 1 (n.tmod 1000) ⟨#[]⟩ [] []) t _ _ w17 (by unfold maxLen; omega) HT.out (leaf_at _ _ _ _) HF HL1.fit).mono ?_
                rintro e w18 ⟨he, hb⟩
                replace HV := Lib.hid (HV.out.trans (hb.mono HV.out.size))
                replace X5 := Lib.hid (bget' hb X5.out)
                replace X7 := Lib.hid (bget' hb X7.out)
                replace X15 := Lib.hid (bget' hb X15.out)
                replace X23 := Lib.hid (bget' hb X23.out)
                replace X24 := Lib.hid (bget' hb X24.out)
                replace HT := Lib.hid (TmAt.keep hb hb.size _ _ HT.out)
                replace HQ := Lib.hid (TmAt.keep hb hb.size _ _ HQ.out)
                replace Hvx := Lib.hid (TmAt.keep hb hb.size _ _ Hvx.out)
                replace HS1 := Lib.hid (HS1.out.mono hb.size fun b o hlt h => StrsAt.keep hb _ _ _ hlt h)
                replace HS2 := Lib.hid (HS2.out.mono hb.size fun b o hlt h => StrsAt.keep hb _ _ _ hlt h)
                replace HS3 := Lib.hid (HS3.out.mono hb.size fun b o hlt h => StrsAt.keep hb _ _ _ hlt h)
                obtain ⟨va, rfl, hva⟩ := SubstEnd.leaf he HL1 HTB.out HF HNS.out
                rw [← HEA.out] at hva
                have Hva := Lib.hid hva
                clear hva
                obtain ⟨vaa, vab, vac, vad, rfl, -⟩ := Hva.out.parts
                clear hb
                clear c00 c01 c02 c03 c04 c10 c11 c12 c13 c14
                go_upto_region 34 with fail
                have hb := (Below.refl _ w18).alloc (Nat.le_refl _) (.cells #[.int .i64 A.op, .int .i64 A.n, .string A.text, .slice vaa A.kids.length vab, .slice vac A.pats.length vad] 32)
                have X25n := Lib.hid (heap_alloc_new w18 (.cells #[.int .i64 A.op, .int .i64 A.n, .string A.text, .slice vaa A.kids.length vab, .slice vac A.pats.length vad] 32))
                replace HV := Lib.hid (HV.out.trans (hb.mono HV.out.size))
                replace X5 := Lib.hid (bget' hb X5.out)
                replace X7 := Lib.hid (bget' hb X7.out)
                replace X15 := Lib.hid (bget' hb X15.out)
                replace X23 := Lib.hid (bget' hb X23.out)
                replace X24 := Lib.hid (bget' hb X24.out)
                replace HT := Lib.hid (TmAt.keep hb hb.size _ _ HT.out)
                replace HQ := Lib.hid (TmAt.keep hb hb.size _ _ HQ.out)
                replace Hvx := Lib.hid (TmAt.keep hb hb.size _ _ Hvx.out)
                replace Hva := Lib.hid (TmAt.keep hb hb.size _ _ Hva.out)
                replace HS1 := Lib.hid (HS1.out.mono hb.size fun b o hlt h => StrsAt.keep hb _ _ _ hlt h)
                replace HS2 := Lib.hid (HS2.out.mono hb.size fun b o hlt h => StrsAt.keep hb _ _ _ hlt h)
                replace HS3 := Lib.hid (HS3.out.mono hb.size fun b o hlt h => StrsAt.keep hb _ _ _ hlt h)
                clear hb
                generalize (w18.alloc (.cells #[.int .i64 A.op, .int .i64 A.n, .string A.text, .slice vaa A.kids.length vab, .slice vac A.pats.length vad] 32)) = w19 at *
                have X25 := X25n
                clear X25n
                obtain ⟨c00, c01, c02, c03, c04⟩ := cells5 X5.out
                obtain ⟨c10, c11, c12, c13, c14⟩ := cells5 X24.out
                go_wp2_with fail
                refine (Subst_any o (.mk 3 0 ⟨#[]⟩ [] []) t _ _ w19 (by unfold maxLen; omega) HT.out (leaf_at _ _ _ _) HF HL2.fit).mono ?_
                rintro e w20 ⟨he, hb⟩
                replace HV := Lib.hid (HV.out.trans (hb.mono HV.out.size))
                replace X5 := Lib.hid (bget' hb X5.out)
                replace X7 := Lib.hid (bget' hb X7.out)
                replace X15 := Lib.hid (bget' hb X15.out)
                replace X23 := Lib.hid (bget' hb X23.out)
                replace X24 := Lib.hid (bget' hb X24.out)
                replace X25 := Lib.hid (bget' hb X25.out)
                replace HT := Lib.hid (TmAt.keep hb hb.size _ _ HT.out)
                replace HQ := Lib.hid (TmAt.keep hb hb.size _ _ HQ.out)
                replace Hvx := Lib.hid (TmAt.keep hb hb.size _ _ Hvx.out)
                replace Hva := Lib.hid (TmAt.keep hb hb.size _ _ Hva.out)
                replace HS1 := Lib.hid (HS1.out.mono hb.size fun b o hlt h => StrsAt.keep hb _ _ _ hlt h)
                replace HS2 := Lib.hid (HS2.out.mono hb.size fun b o hlt h => StrsAt.keep hb _ _ _ hlt h)
                replace HS3 := Lib.hid (HS3.out.mono hb.size fun b o hlt h => StrsAt.keep hb _ _ _ hlt h)
                obtain ⟨vb, rfl, hvb⟩ := SubstEnd.leaf he HL2 HTB.out HF HNO.out
                rw [← HEB.out] at hvb
                have Hvb := Lib.hid hvb
                clear hvb
                obtain ⟨vba, vbb, vbc, vbd, rfl, -⟩ := Hvb.out.parts
                clear hb
                clear c00 c01 c02 c03 c04 c10 c11 c12 c13 c14
                go_upto_region 35 with fail
                have hb := (Below.refl _ w20).alloc (Nat.le_refl _) (.cells #[.int .i64 B.op, .int .i64 B.n, .string B.text, .slice vba B.kids.length vbb, .slice vbc B.pats.length vbd] 32)
                have X27n := Lib.hid (heap_alloc_new w20 (.cells #[.int .i64 B.op, .int .i64 B.n, .string B.text, .slice vba B.kids.length vbb, .slice vbc B.pats.length vbd] 32))
                replace HV := Lib.hid (HV.out.trans (hb.mono HV.out.size))
                replace X5 := Lib.hid (bget' hb X5.out)
                replace X7 := Lib.hid (bget' hb X7.out)
                replace X15 := Lib.hid (bget' hb X15.out)
                replace X23 := Lib.hid (bget' hb X23.out)
                replace X24 := Lib.hid (bget' hb X24.out)
                replace X25 := Lib.hid (bget' hb X25.out)
                replace HT := Lib.hid (TmAt.keep hb hb.size _ _ HT.out)
                replace HQ := Lib.hid (TmAt.keep hb hb.size _ _ HQ.out)
                replace Hvx := Lib.hid (TmAt.keep hb hb.size _ _ Hvx.out)
                replace Hva := Lib.hid (TmAt.keep hb hb.size _ _ Hva.out)
                replace Hvb := Lib.hid (TmAt.keep hb hb.size _ _ Hvb.out)
                replace HS1 := Lib.hid (HS1.out.mono hb.size fun b o hlt h => StrsAt.keep hb _ _ _ hlt h)
                replace HS2 := Lib.hid (HS2.out.mono hb.size fun b o hlt h => StrsAt.keep hb _ _ _ hlt h)
                replace HS3 := Lib.hid (HS3.out.mono hb.size fun b o hlt h => StrsAt.keep hb _ _ _ hlt h)
                clear hb
                generalize (w20.alloc (.cells #[.int .i64 B.op, .int .i64 B.n, .string B.text, .slice vba B.kids.length vbb, .slice vbc B.pats.length vbd] 32)) = w21 at *
                have X27 := X27n
                clear X27n
                obtain ⟨c00, c01, c02, c03, c04⟩ := cells5 X25.out
                obtain ⟨c10, c11, c12, c13, c14⟩ := cells5 X24.out
                go_wp2_with fail
                refine (Subst_any o (.mk 3 0 ⟨#[]⟩ [] []) A _ _ w21 (by unfold maxLen; omega) Hva.out (leaf_at _ _ _ _) HAF HL2.fit).mono ?_
                rintro e w22 ⟨he, hb⟩
                replace HV := Lib.hid (HV.out.trans (hb.mono HV.out.size))
                replace X5 := Lib.hid (bget' hb X5.out)
                replace X7 := Lib.hid (bget' hb X7.out)
                replace X15 := Lib.hid (bget' hb X15.out)
                replace X23 := Lib.hid (bget' hb X23.out)
                replace X24 := Lib.hid (bget' hb X24.out)
                replace X25 := Lib.hid (bget' hb X25.out)
                replace X27 := Lib.hid (bget' hb X27.out)
                replace HT := Lib.hid (TmAt.keep hb hb.size _ _ HT.out)
                replace HQ := Lib.hid (TmAt.keep hb hb.size _ _ HQ.out)
                replace Hvx := Lib.hid (TmAt.keep hb hb.size _ _ Hvx.out)
                replace Hva := Lib.hid (TmAt.keep hb hb.size _ _ Hva.out)
                replace Hvb := Lib.hid (TmAt.keep hb hb.size _ _ Hvb.out)
                replace HS1 := Lib.hid (HS1.out.mono hb.size fun b o hlt h => StrsAt.keep hb _ _ _ hlt h)
                replace HS2 := Lib.hid (HS2.out.mono hb.size fun b o hlt h => StrsAt.keep hb _ _ _ hlt h)
                replace HS3 := Lib.hid (HS3.out.mono hb.size fun b o hlt h => StrsAt.keep hb _ _ _ hlt h)
                obtain ⟨vc, rfl, hvc⟩ := SubstEnd.leaf he HL2 HAB.out HAF HNO.out
                rw [← HEC.out] at hvc
                have Hvc := Lib.hid hvc
                clear hvc
                obtain ⟨vca, vcb, vcc, vcd, rfl, -⟩ := Hvc.out.parts
                clear hb
                clear c00 c01 c02 c03 c04 c10 c11 c12 c13 c14
                go_upto_region 38 with fail
                have hb := (Below.refl _ w22).alloc (Nat.le_refl _) (.cells #[.int .i64 C.op, .int .i64 C.n, .string C.text, .slice vca C.kids.length vcb, .slice vcc C.pats.length vcd] 32)
                have X29n := Lib.hid (heap_alloc_new w22 (.cells #[.int .i64 C.op, .int .i64 C.n, .string C.text, .slice vca C.kids.length vcb, .slice vcc C.pats.length vcd] 32))
                replace HV := Lib.hid (HV.out.trans (hb.mono HV.out.size))
                replace X5 := Lib.hid (bget' hb X5.out)
                replace X7 := Lib.hid (bget' hb X7.out)
                replace X15 := Lib.hid (bget' hb X15.out)
                replace X23 := Lib.hid (bget' hb X23.out)
                replace X24 := Lib.hid (bget' hb X24.out)
                replace X25 := Lib.hid (bget' hb X25.out)
                replace X27 := Lib.hid (bget' hb X27.out)
                replace HT := Lib.hid (TmAt.keep hb hb.size _ _ HT.out)
                replace HQ := Lib.hid (TmAt.keep hb hb.size _ _ HQ.out)
                replace Hvx := Lib.hid (TmAt.keep hb hb.size _ _ Hvx.out)
                replace Hva := Lib.hid (TmAt.keep hb hb.size _ _ Hva.out)
                replace Hvb := Lib.hid (TmAt.keep hb hb.size _ _ Hvb.out)
                replace Hvc := Lib.hid (TmAt.keep hb hb.size _ _ Hvc.out)
                replace HS1 := Lib.hid (HS1.out.mono hb.size fun b o hlt h => StrsAt.keep hb _ _ _ hlt h)
                replace HS2 := Lib.hid (HS2.out.mono hb.size fun b o hlt h => StrsAt.keep hb _ _ _ hlt h)
                replace HS3 := Lib.hid (HS3.out.mono hb.size fun b o hlt h => StrsAt.keep hb _ _ _ hlt h)
                clear hb
                generalize (w22.alloc (.cells #[.int .i64 C.op, .int .i64 C.n, .string C.text, .slice vca C.kids.length vcb, .slice vcc C.pats.length vcd] 32)) = w23 at *
                have X29 := X29n
                clear X29n
                obtain ⟨c00, c01, c02, c03, c04⟩ := cells5 X27.out
                obtain ⟨c10, c11, c12, c13, c14⟩ := cells5 X23.out
                go_wp2_with fail
                refine (Subst_any s (.mk 1 (n.tmod 1000) ⟨#[]⟩ [] []) B _ _ w23 (by unfold maxLen; omega) Hvb.out (leaf_at _ _ _ _) HBF HL1.fit).mono ?_
                rintro e w24 ⟨he, hb⟩
                replace HV := Lib.hid (HV.out.trans (hb.mono HV.out.size))
                replace X5 := Lib.hid (bget' hb X5.out)
                replace X7 := Lib.hid (bget' hb X7.out)
                replace X15 := Lib.hid (bget' hb X15.out)
                replace X23 := Lib.hid (bget' hb X23.out)
                replace X24 := Lib.hid (bget' hb X24.out)
                replace X25 := Lib.hid (bget' hb X25.out)
                replace X27 := Lib.hid (bget' hb X27.out)
                replace X29 := Lib.hid (bget' hb X29.out)
                replace HT := Lib.hid (TmAt.keep hb hb.size _ _ HT.out)
                replace HQ := Lib.hid (TmAt.keep hb hb.size _ _ HQ.out)
                replace Hvx := Lib.hid (TmAt.keep hb hb.size _ _ Hvx.out)
                replace Hva := Lib.hid (TmAt.keep hb hb.size _ _ Hva.out)
                replace Hvb := Lib.hid (TmAt.keep hb hb.size _ _ Hvb.out)
                replace Hvc := Lib.hid (TmAt.keep hb hb.size _ _ Hvc.out)
                replace HS1 := Lib.hid (HS1.out.mono hb.size fun b o hlt h => StrsAt.keep hb _ _ _ hlt h)
                replace HS2 := Lib.hid (HS2.out.mono hb.size fun b o hlt h => StrsAt.keep hb _ _ _ hlt h)
                replace HS3 := Lib.hid (HS3.out.mono hb.size fun b o hlt h => StrsAt.keep hb _ _ _ hlt h)
                obtain ⟨vd, rfl, hvd⟩ := SubstEnd.leaf he HL1 HBB.out HBF HNS.out
                rw [HED.out] at hvd
                have Hvd := Lib.hid hvd
                clear hvd
                obtain ⟨vda, vdb, vdc, vdd, rfl, -⟩ := Hvd.out.parts
                clear hb
                clear c00 c01 c02 c03 c04 c10 c11 c12 c13 c14
                go_upto_region 39 with fail
                have hb := (Below.refl _ w24).alloc (Nat.le_refl _) (.cells #[.int .i64 C.op, .int .i64 C.n, .string C.text, .slice vda C.kids.length vdb, .slice vdc C.pats.length vdd] 32)
                have X31n := Lib.hid (heap_alloc_new w24 (.cells #[.int .i64 C.op, .int .i64 C.n, .string C.text, .slice vda C.kids.length vdb, .slice vdc C.pats.length vdd] 32))
                replace HV := Lib.hid (HV.out.trans (hb.mono HV.out.size))
                replace X5 := Lib.hid (bget' hb X5.out)
                replace X7 := Lib.hid (bget' hb X7.out)
                replace X15 := Lib.hid (bget' hb X15.out)
                replace X23 := Lib.hid (bget' hb X23.out)
                replace X24 := Lib.hid (bget' hb X24.out)
                replace X25 := Lib.hid (bget' hb X25.out)
                replace X27 := Lib.hid (bget' hb X27.out)
                replace X29 := Lib.hid (bget' hb X29.out)
                replace HT := Lib.hid (TmAt.keep hb hb.size _ _ HT.out)
                replace HQ := Lib.hid (TmAt.keep hb hb.size _ _ HQ.out)
                replace Hvx := Lib.hid (TmAt.keep hb hb.size _ _ Hvx.out)
                replace Hva := Lib.hid (TmAt.keep hb hb.size _ _ Hva.out)
                replace Hvb := Lib.hid (TmAt.keep hb hb.size _ _ Hvb.out)
                replace Hvc := Lib.hid (TmAt.keep hb hb.size _ _ Hvc.out)
                replace Hvd := Lib.hid (TmAt.keep hb hb.size _ _ Hvd.out)
                replace HS1 := Lib.hid (HS1.out.mono hb.size fun b o hlt h => StrsAt.keep hb _ _ _ hlt h)
                replace HS2 := Lib.hid (HS2.out.mono hb.size fun b o hlt h => StrsAt.keep hb _ _ _ hlt h)
                replace HS3 := Lib.hid (HS3.out.mono hb.size fun b o hlt h => StrsAt.keep hb _ _ _ hlt h)
                clear hb
                generalize (w24.alloc (.cells #[.int .i64 C.op, .int .i64 C.n, .string C.text, .slice vda C.kids.length vdb, .slice vdc C.pats.length vdd] 32)) = w25 at *
                have X31 := X31n
                clear X31n
                obtain ⟨c00, c01, c02, c03, c04⟩ := cells5 X29.out
                obtain ⟨c10, c11, c12, c13, c14⟩ := cells5 X31.out
                go_wp2_with fail
                refine (Same_any C C _ _ w25 Hvc.out Hvd.out).mono ?_
                rintro e w26 ⟨rfl, hb⟩
                replace HV := Lib.hid (HV.out.trans (hb.mono HV.out.size))
                replace X5 := Lib.hid (bget' hb X5.out)
                replace X7 := Lib.hid (bget' hb X7.out)
                replace X15 := Lib.hid (bget' hb X15.out)
                replace X23 := Lib.hid (bget' hb X23.out)
                replace X24 := Lib.hid (bget' hb X24.out)
                replace X25 := Lib.hid (bget' hb X25.out)
                replace X27 := Lib.hid (bget' hb X27.out)
                replace X29 := Lib.hid (bget' hb X29.out)
                replace X31 := Lib.hid (bget' hb X31.out)
                replace HT := Lib.hid (TmAt.keep hb hb.size _ _ HT.out)
                replace HQ := Lib.hid (TmAt.keep hb hb.size _ _ HQ.out)
                replace Hvx := Lib.hid (TmAt.keep hb hb.size _ _ Hvx.out)
                replace Hva := Lib.hid (TmAt.keep hb hb.size _ _ Hva.out)
                replace Hvb := Lib.hid (TmAt.keep hb hb.size _ _ Hvb.out)
                replace Hvc := Lib.hid (TmAt.keep hb hb.size _ _ Hvc.out)
                replace Hvd := Lib.hid (TmAt.keep hb hb.size _ _ Hvd.out)
                replace HS1 := Lib.hid (HS1.out.mono hb.size fun b o hlt h => StrsAt.keep hb _ _ _ hlt h)
                replace HS2 := Lib.hid (HS2.out.mono hb.size fun b o hlt h => StrsAt.keep hb _ _ _ hlt h)
                replace HS3 := Lib.hid (HS3.out.mono hb.size fun b o hlt h => StrsAt.keep hb _ _ _ hlt h)
                rw [eqM_refl]
                clear hb
                clear c00 c01 c02 c03 c04 c10 c11 c12 c13 c14
                go_wp2_with fail
                refine (known_any _).mono ?_
                rintro e wk ⟨rfl, hb⟩
                replace HV := Lib.hid (HV.out.trans (hb.mono HV.out.size))
                clear hb
                go_wp2
                go_ret
                exact ⟨rfl, HV.out⟩

end Go.Proofs.YtjpahjfjpkbcnaaGreat

/- Five arguments that are laid. -/
namespace Go.Proofs.YtjpahjfjpkbcnaaGreat
open Go.Proofs Go.RowKit Go.ChangeShapes
section
variable {H : Type} {enc : TypeId × Value → H} {P : Program} {w : World} {base : Nat} {spare : Nat → Bool} {held : Bool}
theorem trodAll_five {t0 t1 t2 t3 t4 : TypeId} {args : Array Value} {ds : List (DataW H)} {ps : List MemPlace} (h : DataW.TrodAll enc P w base spare held [t0, t1, t2, t3, t4] args.toList ds ps) :
    ∃ v0 v1 v2 v3 v4 d0 d1 d2 d3 d4 p0 p1 p2 p3 p4, args = #[v0, v1, v2, v3, v4] ∧ ds = [d0, d1, d2, d3, d4] ∧ ps = p0 ++ p1 ++ p2 ++ p3 ++ p4 ∧ DataW.Trod enc P w base spare held t0 v0 d0 p0 ∧ DataW.Trod enc P w base spare held t1 v1 d1 p1 ∧ DataW.Trod enc P w base spare held t2 v2 d2 p2 ∧ DataW.Trod enc P w base spare held t3 v3 d3 p3 ∧ DataW.Trod enc P w base spare held t4 v4 d4 p4 := by
  obtain ⟨v0, vs, d0, ds0, p0, q0, hargs, rfl, rfl, h0, hr0⟩ := trodAll_cons h
  obtain ⟨v1, vs1, d1, ds1, p1, q1, rfl, rfl, rfl, h1, hr1⟩ := trodAll_cons hr0
  obtain ⟨v2, vs2, d2, ds2, p2, q2, rfl, rfl, rfl, h2, hr2⟩ := trodAll_cons hr1
  obtain ⟨v3, vs3, d3, ds3, p3, q3, rfl, rfl, rfl, h3, hr3⟩ := trodAll_cons hr2
  obtain ⟨v4, vs4, d4, ds4, p4, q4, rfl, rfl, rfl, h4, hr4⟩ := trodAll_cons hr3
  obtain ⟨rfl, rfl, rfl⟩ := trodAll_nil hr4
  exact ⟨v0, v1, v2, v3, v4, d0, d1, d2, d3, d4, p0, p1, p2, p3, p4, by cases args; simp_all, rfl, by simp, h0, h1, h2, h3, h4⟩
theorem trodAll_mk5 {t0 t1 t2 t3 t4 : TypeId} {v0 v1 v2 v3 v4 : Value} {d0 d1 d2 d3 d4 : DataW H} {p0 p1 p2 p3 p4 : List MemPlace} (h0 : DataW.Trod enc P w base spare held t0 v0 d0 p0) (h1 : DataW.Trod enc P w base spare held t1 v1 d1 p1)
    (h2 : DataW.Trod enc P w base spare held t2 v2 d2 p2) (h3 : DataW.Trod enc P w base spare held t3 v3 d3 p3) (h4 : DataW.Trod enc P w base spare held t4 v4 d4 p4) :
    DataW.TrodAll enc P w base spare held [t0, t1, t2, t3, t4] [v0, v1, v2, v3, v4] [d0, d1, d2, d3, d4] (p0 ++ (p1 ++ (p2 ++ (p3 ++ p4)))) :=
  ⟨p0, _, h0, ⟨p1, _, h1, trodAll_mk3 h2 h3 h4, rfl⟩, rfl⟩
end
end Go.Proofs.YtjpahjfjpkbcnaaGreat
