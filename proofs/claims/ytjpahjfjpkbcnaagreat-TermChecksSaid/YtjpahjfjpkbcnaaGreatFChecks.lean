/- TermChecks is true for every term, pattern and type, and changes them in nothing. No condition. -/
import Derived.Test.YtjpahjfjpkbcnaaGreatG13
import Derived.Test.YtjpahjfjpkbcnaaGreatG11
import Derived.Test.YtjpahjfjpkbcnaaGreatG10
import Derived.Test.YtjpahjfjpkbcnaaGreatRows

/- TermChecks: its walk. -/
namespace Go.Proofs.YtjpahjfjpkbcnaaGreat
open Go.Proofs Go.RowKit

theorem size_alloc1 (w : World) (o : Obj) : (w.alloc o).heap.size = w.heap.size + 1 := by simp
theorem sameL_self : ∀ l : List ByteArray, sameL l l = true
  | [] => rfl
  | x :: l => by unfold sameL; rw [sameL_self l]; simp
theorem TmAt.boxed {T : Tm} {w W : World} {v : Value} (h : TmAt w.heap.size w T v) (hb : Below w.heap.size w W) : TmAt W.heap.size W T v := TmAt.keep hb hb.size _ _ h
theorem PtAt.box {T : Pt} {w W : World} {v : Value} (h : PtAt w.heap.size w T v) (hb : Below w.heap.size w W) : PtAt W.heap.size W T v := PtAt.keep hb hb.size _ _ h
theorem TyAt.box {T : Ty} {w W : World} {v : Value} (h : TyAt w.heap.size w T v) (hb : Below w.heap.size w W) : TyAt W.heap.size W T v := TyAt.keep hb hb.size _ _ h
mutual
theorem smHeightY : ∀ (p : Ty) (d : Int), heightY p ≤ (partsY d p).length
  | .mk _ _ _ ps, d => by
    unfold heightY partsY
    rw [List.length_cons]
    have := smHeightsY ps (d + 1)
    omega
theorem smHeightsY : ∀ (ps : List Ty) (d : Int), heightsY ps ≤ (partssY d ps).length
  | [], _ => Nat.zero_le _
  | p :: ps, d => by
    unfold heightsY partssY
    rw [List.length_append]
    have := smHeightY p d
    have := smHeightsY ps d
    omega
end
theorem SmallType_height {p : Ty} (h : SmallTypeB p = true) : heightY p ≤ 1000 := by
  unfold SmallTypeB at h
  rw [Bool.and_eq_true, weighY_nonneg p 16 1] at h
  have := of_decide_eq_true h.1
  have := smHeightY p 1
  omega
theorem SmallPat_height {p : Pt} (h : SmallPatB p = true) : heightP p ≤ 1000 ∧ (partsP 1 p).length ≤ 1000000 := by
  have h1 := SmallPat_len h
  have := smHeightP p 1
  exact ⟨by omega, by omega⟩

/-- What the exported Names ends with. -/
def NamesEnd (T : Pt) (w : World) (e : Ending) (w' : World) : Prop :=
  if patB T then ∃ v', e = .returned (.tuple #[v', .int .i64 0]) ∧ SlIn (Fresh w w') v' (namesP T).length fun b o => StrsAt w' (namesP T) b o else e = .returned (.tuple #[.slice none 0 0, .int .i64 2])

set_option maxHeartbeats 2000000 in
theorem Names_any (T : Pt) (v : Value) (w : World) (hT : PtAt w.heap.size w T v) (hh : heightP T ≤ 1000) (hl : (partsP 1 T).length ≤ 1000000) :
    Calls Tryz.prog 24 #[v] w fun e w' => NamesEnd T w e w' ∧ Below w.heap.size w w' := by
  obtain ⟨a, cap, rfl, -⟩ := hT.parts
  have hb0 : Below w.heap.size w (w.alloc (.cells #[.int .i64 T.form, .int .i64 T.n, .string T.text, .slice a T.parts.length cap] 35)) := (Below.refl _ w).alloc (Nat.le_refl _) _
  have hc := CheckPat_any T _ _ (PtAt.keep (n₁ := (w.alloc (.cells #[.int .i64 T.form, .int .i64 T.n, .string T.text, .slice a T.parts.length cap] 35)).heap.size) hb0 (by simp) _ _ hT) hh
  have HT := Lib.hid hT; have HC := Lib.hid hc; have HB0 := Lib.hid hb0
  clear hT hc hb0
  go_enter Tryz.func24, Tryz.ntmps24
  go_wp2_with fail
  refine HC.out.mono ?_
  rintro e w1 ⟨rfl, hb1⟩
  have hx := bget' hb1 (heap_alloc_new w (.cells #[.int .i64 T.form, .int .i64 T.n, .string T.text, .slice a T.parts.length cap] 35))
  obtain ⟨c0, c1, c2, c3⟩ := cells4 hx
  have hb01 := HB0.out.trans (hb1.mono (by simp))
  have HB := Lib.hid hb01
  clear hx hb1 hb01 HC HB0
  cases hb : patB T
  · have HBF := Lib.hid hb
    clear hb
    have he : errOf false = 2 := rfl
    rw [he]
    go_wp2
    refine bodyPost_ret (v := .tuple #[.slice none 0 0, .int .i64 2]) (by simp [results, Tryz.results24, go_sem]) rfl ⟨?_, HB.out⟩
    unfold NamesEnd; rw [HBF.out]; rfl
  · have hs := HB.out.size
    have hfn := callsIn_wide.1 (namesOf_any w1.heap.size T _ w1 (HT.out.box HB.out) (Nat.le_refl _) hh hl)
    have HBF := Lib.hid hb; have HFN := Lib.hid hfn
    clear hb hfn
    have he : errOf true = 0 := rfl
    rw [he]
    go_wp2_with fail
    refine HFN.out.mono ?_
    rintro e w2 ⟨⟨v2, rfl, hsl⟩, hb2⟩
    obtain ⟨a2, cap2, rfl⟩ := hsl.split
    have HSL := Lib.hid hsl; have HB2 := Lib.hid hb2
    clear hsl hb2
    go_wp2
    refine bodyPost_ret (v := .tuple #[.slice a2 (namesP T).length cap2, .int .i64 0]) (by simp [results, Tryz.results24, go_sem]) rfl ⟨?_, HB.out.trans (HB2.out.mono hs)⟩
    unfold NamesEnd
    rw [HBF.out]
    exact ⟨_, rfl, HSL.out.mono (fun b h => ⟨by have := h.1; omega, h.2⟩) fun _ _ _ h => h⟩

theorem patB_names {p : Pt} (h : patB p = true) : patN p = namesP p := by
  rw [← refPatB_eq] at h
  unfold refPatB at h
  rw [Bool.and_eq_true, Bool.and_eq_true] at h
  exact patN_names p 1 h.1.2

set_option maxHeartbeats 4000000 in
set_option maxRecDepth 100000 in
theorem TermChecks_any (T : Tm) (P : Pt) (Y : Ty) (v p k : Value) (w : World) (hv : TmAt w.heap.size w T v) (hp : PtAt w.heap.size w P p) (hy : TyAt w.heap.size w Y k) :
    Calls Tryz.prog 4 #[v, p, k] w fun e w' => e = .returned (.bool true) ∧ Below w.heap.size w w' := by
  obtain ⟨a, cap, a', cap', rfl, -⟩ := hv.parts
  obtain ⟨pa, pc, rfl, -⟩ := hp.parts
  obtain ⟨ya, yc, rfl, -⟩ := hy.parts
  have hb0 := (((Below.refl w.heap.size w).alloc (Nat.le_refl _) (.cells #[.int .i64 T.op, .int .i64 T.n, .string T.text, .slice a T.kids.length cap, .slice a' T.pats.length cap'] 32)).alloc (by simp) (.cells #[.int .i64 P.form, .int .i64 P.n, .string P.text, .slice pa P.parts.length pc] 35)).alloc (by simp; omega) (.cells #[.int .i64 Y.sort, .int .i64 Y.n, .string Y.text, .slice ya Y.parts.length yc] 39)
  have hbT := bget' ((Below.refl _ _).alloc (Nat.le_refl _) (.cells #[.int .i64 Y.sort, .int .i64 Y.n, .string Y.text, .slice ya Y.parts.length yc] 39)) (bget' ((Below.refl _ _).alloc (Nat.le_refl _) (.cells #[.int .i64 P.form, .int .i64 P.n, .string P.text, .slice pa P.parts.length pc] 35)) (heap_alloc_new w (.cells #[.int .i64 T.op, .int .i64 T.n, .string T.text, .slice a T.kids.length cap, .slice a' T.pats.length cap'] 32)))
  have hbP := bget' ((Below.refl _ _).alloc (Nat.le_refl _) (.cells #[.int .i64 Y.sort, .int .i64 Y.n, .string Y.text, .slice ya Y.parts.length yc] 39)) (heap_alloc_new (w.alloc (.cells #[.int .i64 T.op, .int .i64 T.n, .string T.text, .slice a T.kids.length cap, .slice a' T.pats.length cap'] 32)) (.cells #[.int .i64 P.form, .int .i64 P.n, .string P.text, .slice pa P.parts.length pc] 35))
  have hbY := heap_alloc_new ((w.alloc (.cells #[.int .i64 T.op, .int .i64 T.n, .string T.text, .slice a T.kids.length cap, .slice a' T.pats.length cap'] 32)).alloc (.cells #[.int .i64 P.form, .int .i64 P.n, .string P.text, .slice pa P.parts.length pc] 35)) (.cells #[.int .i64 Y.sort, .int .i64 Y.n, .string Y.text, .slice ya Y.parts.length yc] 39)
  rw [size_alloc1] at hbP
  rw [size_alloc1, size_alloc1] at hbY
  obtain ⟨c0, c1, c2, c3, c4⟩ := cells5 hbT
  have HV := Lib.hid hv; have HP := Lib.hid hp; have HY := Lib.hid hy
  have HB0 := Lib.hid hb0; have HBT := Lib.hid hbT; have HBP := Lib.hid hbP; have HBY := Lib.hid hbY
  clear hv hp hy hb0 hbT hbP hbY
  go_enter Tryz.func4, Tryz.ntmps4
  go_wp2_with fail
  generalize (((w.alloc (.cells #[.int .i64 T.op, .int .i64 T.n, .string T.text, .slice a T.kids.length cap, .slice a' T.pats.length cap'] 32)).alloc (.cells #[.int .i64 P.form, .int .i64 P.n, .string P.text, .slice pa P.parts.length pc] 35)).alloc (.cells #[.int .i64 Y.sort, .int .i64 Y.n, .string Y.text, .slice ya Y.parts.length yc] 39)) = W at *
  refine (SmallTerm_any T _ W (HV.out.boxed HB0.out)).mono ?_
  rintro e w1 ⟨rfl, hb1⟩
  have HB1 := Lib.hid hb1
  have hbP1 := bget' hb1 HBP.out
  clear hb1 c0 c1 c2 c3 c4
  cases hs1 : SmallTermB T
  · go_wp2_with fail
    refine (known_any w1).mono ?_
    rintro e w2 ⟨rfl, hb2⟩
    go_wp2
    go_ret
    exact ⟨rfl, HB0.out.trans ((HB1.out.trans (hb2.mono HB1.out.size)).mono HB0.out.size)⟩
  obtain ⟨hok, hh, -⟩ := SmallTerm_ok hs1
  have HOK := Lib.hid hok
  clear hs1 hok
  obtain ⟨c0, c1, c2, c3⟩ := cells4 hbP1
  go_wp2_with fail
  have hw1 : Below w.heap.size w w1 := HB0.out.trans (HB1.out.mono HB0.out.size)
  refine (SmallPat_any P _ w1 (HP.out.box hw1)).mono ?_
  rintro e w2 ⟨rfl, hb2⟩
  have HB2 := Lib.hid (HB1.out.trans (hb2.mono HB1.out.size))
  have hbY1 := bget' HB2.out HBY.out
  clear hb2 hbP1 c0 c1 c2 c3 hw1
  cases hs2 : SmallPatB P
  · go_wp2_with fail
    refine (known_any w2).mono ?_
    rintro e w3 ⟨rfl, hb3⟩
    go_wp2
    go_ret
    exact ⟨rfl, HB0.out.trans ((HB2.out.trans (hb3.mono HB2.out.size)).mono HB0.out.size)⟩
  obtain ⟨hhP, hlP⟩ := SmallPat_height hs2
  have hnP : (namesP P).length ≤ 1000000 := by
    have := namesL_len ((partsP 1 P).map (·.2))
    rw [List.length_map] at this
    exact Nat.le_trans this hlP
  have hLP : lensP P := partsP_lens P 1 hlP
  have HLP := Lib.hid hLP; have HHP := Lib.hid hhP; have HLN := Lib.hid hlP; have HNP := Lib.hid hnP
  clear hs2 hLP hhP hlP hnP
  obtain ⟨c0, c1, c2, c3⟩ := cells4 hbY1
  go_wp2_with fail
  have hw2 : Below w.heap.size w w2 := HB0.out.trans (HB2.out.mono HB0.out.size)
  refine (SmallType_any Y _ w2 (HY.out.box hw2)).mono ?_
  rintro e w3 ⟨rfl, hb3⟩
  have HB3 := Lib.hid (HB2.out.trans (hb3.mono HB2.out.size))
  have hbP3 := bget' HB3.out HBP.out
  clear hb3 hbY1 c0 c1 c2 c3 hw2
  cases hs3 : SmallTypeB Y
  · go_wp2_with fail
    refine (known_any w3).mono ?_
    rintro e w4 ⟨rfl, hb4⟩
    go_wp2
    go_ret
    exact ⟨rfl, HB0.out.trans ((HB3.out.trans (hb4.mono HB3.out.size)).mono HB0.out.size)⟩
  have hhY := SmallType_height hs3
  clear hs3
  obtain ⟨c0, c1, c2, c3⟩ := cells4 hbP3
  have HBV : ∀ V, Below W.heap.size W V → Below w.heap.size w V := fun V hb => HB0.out.trans (hb.mono HB0.out.size)
  have C29 := Lib.hid fun V hb => Check_any T _ V (HV.out.boxed (HBV V hb)) hh HOK.out
  have C30 := Lib.hid fun V hb => refTermB_eq T ▸ Term_any T _ V (HV.out.boxed (HBV V hb)) HOK.out
  have C31 := Lib.hid fun V hb => CheckPat_any P _ V (HP.out.box (HBV V hb)) HHP.out
  have C26 := Lib.hid fun V hb => refPatB_eq P ▸ Pat_any P _ V (HP.out.box (HBV V hb))
  have C32 := Lib.hid fun V hb => CheckType_any Y _ V (HY.out.box (HBV V hb)) hhY
  have C33 := Lib.hid fun V hb => refTypeB_eq Y ▸ Type_any Y _ V (HY.out.box (HBV V hb))
  have C24 := Lib.hid fun V hb => Names_any P _ V (HP.out.box (HBV V hb)) HHP.out HLN.out
  have C28 := Lib.hid fun V hb hn => PatNames_any P _ V (HP.out.box (HBV V hb)) HLP.out hn
  have hfin : ∀ V, Below W.heap.size W V → ∀ V', Below V.heap.size V V' → Below W.heap.size W V' := fun V h V' h' => h.trans (h'.mono h.size)
  have HFIN := Lib.hid hfin
  have HHBV := Lib.hid HBV
  clear HBV hfin
  go_wp2_with fail
  refine (C24.out w3 HB3.out).mono ?_
  rintro e w4 ⟨hne, hb4⟩
  have HB4 := Lib.hid (HFIN.out _ HB3.out _ hb4)
  have hbP4 := bget' HB4.out HBP.out
  clear hb4 hbP3 c0 c1 c2 c3
  obtain ⟨c0, c1, c2, c3⟩ := cells4 hbP4
  unfold NamesEnd at hne
  cases hpb : patB P with
  | false =>
    rw [hpb, if_neg (by simp)] at hne
    subst hne
    go_wp2_with fail
    refine (C26.out w4 HB4.out).mono ?_
    rintro e w5 ⟨rfl, hb5⟩
    rw [hpb]
    have HB5 := Lib.hid (HFIN.out _ HB4.out _ hb5)
    have HPB := Lib.hid hpb
    clear hb5 hpb hbP4 c0 c1 c2 c3
    go_wp2_with fail
    refine (err_any false w5).mono ?_
    rintro e w6 ⟨rfl, hb6⟩
    have he : errOf false = 2 := rfl
    rw [he]
    have HB6 := Lib.hid (HFIN.out _ HB5.out _ hb6)
    clear hb6 he
    go_upto_region 6 with fail
    refine reg4 (a := _) rfl rfl rfl rfl (bget' HB6.out HBT.out) (bget' HB6.out HBP.out) (bget' HB6.out HBY.out) (fun V hb => C29.out V (HFIN.out _ HB6.out _ hb)) (fun V hb => C30.out V (HFIN.out _ HB6.out _ hb)) (fun V hb => C31.out V (HFIN.out _ HB6.out _ hb)) (fun V hb => C26.out V (HFIN.out _ HB6.out _ hb)) (fun V hb => C32.out V (HFIN.out _ HB6.out _ hb)) (fun V hb => C33.out V (HFIN.out _ HB6.out _ hb)) known_any ?_
    rintro ⟨t9, d9⟩ w9 hz hd h6 hb9
    obtain rfl : d9 = [] := hd
    have g6 := tmp_get h6 (by omega)
    go_wp2
    go_ret
    have e6 : t9.getD 6 undef = .bool true := by rw [Array.getD_eq_getD_getElem?, h6]; rfl
    exact ⟨congrArg Ending.returned e6, HHBV.out _ (HFIN.out _ HB6.out _ hb9)⟩
  | true =>
    rw [hpb, if_pos rfl] at hne
    obtain ⟨v2, rfl, hv2⟩ := hne
    obtain ⟨va, vc, rfl⟩ := hv2.split
    have hv4 : SlIn (fun b => b < w4.heap.size) (.slice va (namesP P).length vc) (namesP P).length fun b o => StrsAt w4 (namesP P) b o := hv2.mono (fun b h => h.2) fun _ _ _ h => h
    have HV4 := Lib.hid hv4
    clear hv2 hv4
    go_wp2_with fail
    refine (C26.out w4 HB4.out).mono ?_
    rintro e w5 ⟨rfl, hb5⟩
    rw [hpb]
    have HB5 := Lib.hid (HFIN.out _ HB4.out _ hb5)
    have HB45 := Lib.hid hb5
    have HPB := Lib.hid hpb
    clear hb5 hpb hbP4 c0 c1 c2 c3
    go_wp2_with fail
    refine (err_any true w5).mono ?_
    rintro e w6 ⟨rfl, hb6⟩
    have he : errOf true = 0 := rfl
    rw [he]
    have HB6 := Lib.hid (HFIN.out _ HB5.out _ hb6)
    have HB46 := Lib.hid (HB45.out.trans (hb6.mono HB45.out.size))
    have hbP6 := bget' HB6.out HBP.out
    clear hb6 he
    obtain ⟨c0, c1, c2, c3⟩ := cells4 hbP6
    go_wp2_with fail
    have hnm := patB_names HPB.out
    refine (C28.out w6 HB6.out (by rw [hnm]; exact HNP.out)).mono ?_
    rintro e w7 ⟨⟨v7, rfl, hv7⟩, hb7⟩
    rw [hnm] at hv7
    have HB7 := Lib.hid (HFIN.out _ HB6.out _ hb7)
    have hb47 := HB46.out.trans (hb7.mono HB46.out.size)
    have hs1 : SlV w7.heap.size (.slice va (namesP P).length vc) (namesP P).length fun b o => StrsAt w7 (namesP P) b o := (HV4.out.mono (B' := fun b => b < w4.heap.size) (R' := fun b o => StrsAt w7 (namesP P) b o) (fun b h => h) fun b o h hs => StrsAt.keep hb47 _ _ _ h hs).to (fun b h => Nat.lt_of_lt_of_le h hb47.size) fun _ _ h => h
    have hs2 : SlV w7.heap.size v7 (namesP P).length fun b o => StrsAt w7 (namesP P) b o := hv7.to (fun b h => h.2) fun _ _ h => h
    have HC := Lib.hid (SameNames_any (namesP P) (namesP P) _ v7 w7 hs1 hs2 HNP.out)
    clear c0 c1 c2 c3 hb7 hbP6 hb47 hs1 hs2 hv7 hnm
    go_wp2_with fail
    refine HC.out.mono ?_
    rintro e w8 ⟨rfl, hb8⟩
    rw [sameL_self]
    have HB8 := Lib.hid (HFIN.out _ HB7.out _ hb8)
    clear hb8 HC
    go_upto_region 6 with fail
    refine reg4 (a := _) rfl rfl rfl rfl (bget' HB8.out HBT.out) (bget' HB8.out HBP.out) (bget' HB8.out HBY.out) (fun V hb => C29.out V (HFIN.out _ HB8.out _ hb)) (fun V hb => C30.out V (HFIN.out _ HB8.out _ hb)) (fun V hb => C31.out V (HFIN.out _ HB8.out _ hb)) (fun V hb => C26.out V (HFIN.out _ HB8.out _ hb)) (fun V hb => C32.out V (HFIN.out _ HB8.out _ hb)) (fun V hb => C33.out V (HFIN.out _ HB8.out _ hb)) known_any ?_
    rintro ⟨t9, d9⟩ w9 hz hd h6 hb9
    obtain rfl : d9 = [] := hd
    have g6 := tmp_get h6 (by omega)
    go_wp2
    go_ret
    have e6 : t9.getD 6 undef = .bool true := by rw [Array.getD_eq_getD_getElem?, h6]; rfl
    exact ⟨congrArg Ending.returned e6, HHBV.out _ (HFIN.out _ HB8.out _ hb9)⟩

end Go.Proofs.YtjpahjfjpkbcnaaGreat

/- TermChecks is true for every term, pattern and type, and changes them in nothing. No condition. -/
namespace Go.Proofs.YtjpahjfjpkbcnaaGreat
open Go.ChangeShapes Go.WideShapes Go.ChangeAt Go.RowKit
open Go.ChangeMaps (open_string shut_string)

set_option maxRecDepth 100000 in
theorem termChecks_lifted (os : Os) (started : os.Started) (H : Type) (enc : TypeId × Value → H) :
    ReturnsInHanded {} Tryz.checked os 4 .any (Rows.termChecksSpec.pre6 enc Tryz.prog Tryz.f4 Rows.termChecksRow.domain false) (Rows.termChecksSpec.post enc Tryz.prog Tryz.f4 false true false false) := by
  refine returnsInHanded_of_change (C := Tryz.checked) Tryz.own started (by kernel_rfl) Tryz.func4
    (ChangeSpec.witness6 (enc := enc) (C := Tryz.checked) false ⟨#[], #[.agg #[.int .i64 0, .int .i64 0, .string ⟨#[]⟩, .slice none 0 0, .slice none 0 0], .agg #[.int .i64 0, .int .i64 0, .string ⟨#[]⟩, .slice none 0 0], .agg #[.int .i64 0, .int .i64 0, .string ⟨#[]⟩, .slice none 0 0]], []⟩ 8 (by kernel_rfl) (by kernel_rfl) (by kernel_rfl) (by kernel_rfl)) ?_
  intro W base args ds gs before hval0 hW hcnd _
  have hval : ∀ (j : Nat) t v, Tryz.f4.params[j]? = some t → args[j]? = some v → Value.okWide Tryz.prog W .any base t v := hval0
  have hW' := hW
  obtain ⟨p, q, hA0, hV, rfl, hfz, hnd⟩ := hW
  have hA : DataW.TrodAll enc Tryz.prog W 0 (fun _ => true) true Tryz.f4.params.toList args.toList ds p := hA0
  rw [Tryz.params4] at hA hval
  obtain ⟨v0, v1, v2, d0, d1, d2, p0, p1, p2, rfl, rfl, rfl, h0, h1, h2⟩ := trodAll_three hA
  obtain ⟨rfl, rfl⟩ := trodVars_none hV
  have h0k := h0
  have h1k := h1
  have h2k := h2
  obtain ⟨T0, hT0⟩ := open_tm (hval 0 32 v0 rfl rfl) h0
  obtain ⟨T1, hT1⟩ := open_pt (hval 1 35 v1 rfl rfl) h1
  obtain ⟨T2, hT2⟩ := open_ty (hval 2 39 v2 rfl rfl) h2
  clear hA0 hval0
  simp only [List.append_nil] at hW'
  have hlt : ∀ x ∈ p0 ++ p1 ++ p2, x.block < W.heap.size := fun x hx => by simpa using hW'.lt x hx
  refine (TermChecks_any T0 T1 T2 v0 v1 v2 W hT0 hT1 hT2).mono fun e W' ⟨he, hnx⟩ => ?_
  subst he
  refine ⟨_, rfl, _, _, _, [] ++ [], p0 ++ p1 ++ p2, [], hW', ?_, ?_, rfl, hnx.frame _, fun h => by cases h⟩
  · exact trodAll_mk1 (shut_bool Tryz.underlying4 true)
  · have e := trodAll_mk3 (Below.trod Tryz.laidOut (by kernel_rfl) (of_decide_eq_true (by kernel_rfl)) h0k hnx (fun x hx => hlt x (List.mem_append_left _ (List.mem_append_left _ hx)))) (Below.trod Tryz.laidOut (by kernel_rfl) (of_decide_eq_true (by kernel_rfl)) h1k hnx (fun x hx => hlt x (List.mem_append_left _ (List.mem_append_right _ hx)))) (Below.trod Tryz.laidOut (by kernel_rfl) (of_decide_eq_true (by kernel_rfl)) h2k hnx (fun x hx => hlt x (List.mem_append_right _ hx)))
    simp only [← List.append_assoc] at e
    exact e

theorem termChecks_holds : Rows.TermChecksSaid :=
  OpenClaim.holds_of_wide 4 Tryz.f4 rfl rfl rfl rfl rfl rfl rfl ⟨rfl, rfl, rfl, rfl, rfl⟩ rfl rfl rfl rfl rfl (by kernel_rfl) Tryz.func4 (by kernel_rfl)
    (of_decide_eq_true (by kernel_rfl)) (by unfold Func.isWrapper; first | (rw [if_pos (by decide +kernel)]; kernel_rfl) | (rw [if_neg (by decide +kernel)]; exact ⟨rfl, rfl⟩))
    (fun os started H enc _ => termChecks_lifted os started H enc)

end Go.Proofs.YtjpahjfjpkbcnaaGreat
