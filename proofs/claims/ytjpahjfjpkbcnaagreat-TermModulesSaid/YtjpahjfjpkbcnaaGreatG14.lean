/- Contracts of the program's functions. -/
import Derived.Test.YtjpahjfjpkbcnaaGreatG13
import Derived.Test.YtjpahjfjpkbcnaaGreatG11
import Derived.Test.YtjpahjfjpkbcnaaGreatG10
import Derived.Test.YtjpahjfjpkbcnaaGreatG05
import Derived.Stop.Asserts

/- TermChecks: its walk. -/
namespace Go.Proofs.YtjpahjfjpkbcnaaGreat
open Go.Proofs Go.RowKit

theorem size_alloc1 (w : World) (o : Obj) : (w.alloc o).heap.size = w.heap.size + 1 := by simp
theorem sameL_self : ∀ l : List ByteArray, sameL l l = true
  | [] => rfl
  | x :: l => by unfold sameL; rw [sameL_self l]; simp
theorem TmAt.boxed {T : Tm} {w W : World} {v : Value} (h : TmAt w.heap.size w T v) (hb : Below w.heap.size w W) : TmAt W.heap.size W T v := TmAt.keep hb hb.size _ _ h
theorem PtAt.box {T : Pt} {w W : World} {v : Value} (h : PtAt w.heap.size w T v) (hb : Below w.heap.size w W) : PtAt W.heap.size W T v := PtAt.keep hb hb.size _ _ h
theorem TyAt.box {T : Ty} {w W : World} {v : Value} (h : TyAt w.heap.size w T v) (hb : Below w.heap.size w W) : TyAt W.heap.size W T v := TyAt.keep hb hb.size _ _ h
mutual
theorem smHeightY : ∀ (p : Ty) (d : Int), heightY p ≤ (partsY d p).length
  | .mk _ _ _ ps, d => by
    unfold heightY partsY
    rw [List.length_cons]
    have := smHeightsY ps (d + 1)
    omega
theorem smHeightsY : ∀ (ps : List Ty) (d : Int), heightsY ps ≤ (partssY d ps).length
  | [], _ => Nat.zero_le _
  | p :: ps, d => by
    unfold heightsY partssY
    rw [List.length_append]
    have := smHeightY p d
    have := smHeightsY ps d
    omega
end
theorem SmallType_height {p : Ty} (h : SmallTypeB p = true) : heightY p ≤ 1000 := by
  unfold SmallTypeB at h
  rw [Bool.and_eq_true, weighY_nonneg p 16 1] at h
  have := of_decide_eq_true h.1
  have := smHeightY p 1
  omega
theorem SmallPat_height {p : Pt} (h : SmallPatB p = true) : heightP p ≤ 1000 ∧ (partsP 1 p).length ≤ 1000000 := by
  have h1 := SmallPat_len h
  have := smHeightP p 1
  exact ⟨by omega, by omega⟩

/-- What the exported Names ends with. -/
def NamesEnd (T : Pt) (w : World) (e : Ending) (w' : World) : Prop :=
  if patB T then ∃ v', e = .returned (.tuple #[v', .int .i64 0]) ∧ SlIn (Fresh w w') v' (namesP T).length fun b o => StrsAt w' (namesP T) b o else e = .returned (.tuple #[.slice none 0 0, .int .i64 2])

set_option maxHeartbeats 2000000 in
theorem Names_any (T : Pt) (v : Value) (w : World) (hT : PtAt w.heap.size w T v) (hh : heightP T ≤ 1000) (hl : (partsP 1 T).length ≤ 1000000) :
    Calls Tryz.prog 24 #[v] w fun e w' => NamesEnd T w e w' ∧ Below w.heap.size w w' := by
  obtain ⟨a, cap, rfl, -⟩ := hT.parts
  have hb0 : Below w.heap.size w (w.alloc (.cells #[.int .i64 T.form, .int .i64 T.n, .string T.text, .slice a T.parts.length cap] 35)) := (Below.refl _ w).alloc (Nat.le_refl _) _
  have hc := CheckPat_any T _ _ (PtAt.keep (n₁ := (w.alloc (.cells #[.int .i64 T.form, .int .i64 T.n, .string T.text, .slice a T.parts.length cap] 35)).heap.size) hb0 (by simp) _ _ hT) hh
  have HT := Lib.hid hT; have HC := Lib.hid hc; have HB0 := Lib.hid hb0
  clear hT hc hb0
  go_enter Tryz.func24, Tryz.ntmps24
  go_wp2_with fail
  refine HC.out.mono ?_
  rintro e w1 ⟨rfl, hb1⟩
  have hx := bget' hb1 (heap_alloc_new w (.cells #[.int .i64 T.form, .int .i64 T.n, .string T.text, .slice a T.parts.length cap] 35))
  obtain ⟨c0, c1, c2, c3⟩ := cells4 hx
  have hb01 := HB0.out.trans (hb1.mono (by simp))
  have HB := Lib.hid hb01
  clear hx hb1 hb01 HC HB0
  cases hb : patB T
  · have HBF := Lib.hid hb
    clear hb
    have he : errOf false = 2 := rfl
    rw [he]
    go_wp2
    refine bodyPost_ret (v := .tuple #[.slice none 0 0, .int .i64 2]) (by simp [results, Tryz.results24, go_sem]) rfl ⟨?_, HB.out⟩
    unfold NamesEnd; rw [HBF.out]; rfl
  · have hs := HB.out.size
    have hfn := callsIn_wide.1 (namesOf_any w1.heap.size T _ w1 (HT.out.box HB.out) (Nat.le_refl _) hh hl)
    have HBF := Lib.hid hb; have HFN := Lib.hid hfn
    clear hb hfn
    have he : errOf true = 0 := rfl
    rw [he]
    go_wp2_with fail
    refine HFN.out.mono ?_
    rintro e w2 ⟨⟨v2, rfl, hsl⟩, hb2⟩
    obtain ⟨a2, cap2, rfl⟩ := hsl.split
    have HSL := Lib.hid hsl; have HB2 := Lib.hid hb2
    clear hsl hb2
    go_wp2
    refine bodyPost_ret (v := .tuple #[.slice a2 (namesP T).length cap2, .int .i64 0]) (by simp [results, Tryz.results24, go_sem]) rfl ⟨?_, HB.out.trans (HB2.out.mono hs)⟩
    unfold NamesEnd
    rw [HBF.out]
    exact ⟨_, rfl, HSL.out.mono (fun b h => ⟨by have := h.1; omega, h.2⟩) fun _ _ _ h => h⟩

theorem patB_names {p : Pt} (h : patB p = true) : patN p = namesP p := by
  rw [← refPatB_eq] at h
  unfold refPatB at h
  rw [Bool.and_eq_true, Bool.and_eq_true] at h
  exact patN_names p 1 h.1.2

set_option maxHeartbeats 4000000 in
set_option maxRecDepth 100000 in
theorem TermChecks_any (T : Tm) (P : Pt) (Y : Ty) (v p k : Value) (w : World) (hv : TmAt w.heap.size w T v) (hp : PtAt w.heap.size w P p) (hy : TyAt w.heap.size w Y k) :
    Calls Tryz.prog 4 #[v, p, k] w fun e w' => e = .returned (.bool true) ∧ Below w.heap.size w w' := by
  obtain ⟨a, cap, a', cap', rfl, -⟩ := hv.parts
  obtain ⟨pa, pc, rfl, -⟩ := hp.parts
  obtain ⟨ya, yc, rfl, -⟩ := hy.parts
  have hb0 := (((Below.refl w.heap.size w).alloc (Nat.le_refl _) (.cells #[.int .i64 T.op, .int .i64 T.n, .string T.text, .slice a T.kids.length cap, .slice a' T.pats.length cap'] 32)).alloc (by simp) (.cells #[.int .i64 P.form, .int .i64 P.n, .string P.text, .slice pa P.parts.length pc] 35)).alloc (by simp; omega) (.cells #[.int .i64 Y.sort, .int .i64 Y.n, .string Y.text, .slice ya Y.parts.length yc] 39)
  have hbT := bget' ((Below.refl _ _).alloc (Nat.le_refl _) (.cells #[.int .i64 Y.sort, .int .i64 Y.n, .string Y.text, .slice ya Y.parts.length yc] 39)) (bget' ((Below.refl _ _).alloc (Nat.le_refl _) (.cells #[.int .i64 P.form, .int .i64 P.n, .string P.text, .slice pa P.parts.length pc] 35)) (heap_alloc_new w (.cells #[.int .i64 T.op, .int .i64 T.n, .string T.text, .slice a T.kids.length cap, .slice a' T.pats.length cap'] 32)))
  have hbP := bget' ((Below.refl _ _).alloc (Nat.le_refl _) (.cells #[.int .i64 Y.sort, .int .i64 Y.n, .string Y.text, .slice ya Y.parts.length yc] 39)) (heap_alloc_new (w.alloc (.cells #[.int .i64 T.op, .int .i64 T.n, .string T.text, .slice a T.kids.length cap, .slice a' T.pats.length cap'] 32)) (.cells #[.int .i64 P.form, .int .i64 P.n, .string P.text, .slice pa P.parts.length pc] 35))
  have hbY := heap_alloc_new ((w.alloc (.cells #[.int .i64 T.op, .int .i64 T.n, .string T.text, .slice a T.kids.length cap, .slice a' T.pats.length cap'] 32)).alloc (.cells #[.int .i64 P.form, .int .i64 P.n, .string P.text, .slice pa P.parts.length pc] 35)) (.cells #[.int .i64 Y.sort, .int .i64 Y.n, .string Y.text, .slice ya Y.parts.length yc] 39)
  rw [size_alloc1] at hbP
  rw [size_alloc1, size_alloc1] at hbY
  obtain ⟨c0, c1, c2, c3, c4⟩ := cells5 hbT
  have HV := Lib.hid hv; have HP := Lib.hid hp; have HY := Lib.hid hy
  have HB0 := Lib.hid hb0; have HBT := Lib.hid hbT; have HBP := Lib.hid hbP; have HBY := Lib.hid hbY
  clear hv hp hy hb0 hbT hbP hbY
  go_enter Tryz.func4, Tryz.ntmps4
  go_wp2_with fail
  generalize (((w.alloc (.cells #[.int .i64 T.op, .int .i64 T.n, .string T.text, .slice a T.kids.length cap, .slice a' T.pats.length cap'] 32)).alloc (.cells #[.int .i64 P.form, .int .i64 P.n, .string P.text, .slice pa P.parts.length pc] 35)).alloc (.cells #[.int .i64 Y.sort, .int .i64 Y.n, .string Y.text, .slice ya Y.parts.length yc] 39)) = W at *
  refine (SmallTerm_any T _ W (HV.out.boxed HB0.out)).mono ?_
  rintro e w1 ⟨rfl, hb1⟩
  have HB1 := Lib.hid hb1
  have hbP1 := bget' hb1 HBP.out
  clear hb1 c0 c1 c2 c3 c4
  cases hs1 : SmallTermB T
  · go_wp2_with fail
    refine (known_any w1).mono ?_
    rintro e w2 ⟨rfl, hb2⟩
    go_wp2
    go_ret
    exact ⟨rfl, HB0.out.trans ((HB1.out.trans (hb2.mono HB1.out.size)).mono HB0.out.size)⟩
  obtain ⟨hok, hh, -⟩ := SmallTerm_ok hs1
  have HOK := Lib.hid hok
  clear hs1 hok
  obtain ⟨c0, c1, c2, c3⟩ := cells4 hbP1
  go_wp2_with fail
  have hw1 : Below w.heap.size w w1 := HB0.out.trans (HB1.out.mono HB0.out.size)
  refine (SmallPat_any P _ w1 (HP.out.box hw1)).mono ?_
  rintro e w2 ⟨rfl, hb2⟩
  have HB2 := Lib.hid (HB1.out.trans (hb2.mono HB1.out.size))
  have hbY1 := bget' HB2.out HBY.out
  clear hb2 hbP1 c0 c1 c2 c3 hw1
  cases hs2 : SmallPatB P
  · go_wp2_with fail
    refine (known_any w2).mono ?_
    rintro e w3 ⟨rfl, hb3⟩
    go_wp2
    go_ret
    exact ⟨rfl, HB0.out.trans ((HB2.out.trans (hb3.mono HB2.out.size)).mono HB0.out.size)⟩
  obtain ⟨hhP, hlP⟩ := SmallPat_height hs2
  have hnP : (namesP P).length ≤ 1000000 := by
    have := namesL_len ((partsP 1 P).map (·.2))
    rw [List.length_map] at this
    exact Nat.le_trans this hlP
  have hLP : lensP P := partsP_lens P 1 hlP
  have HLP := Lib.hid hLP; have HHP := Lib.hid hhP; have HLN := Lib.hid hlP; have HNP := Lib.hid hnP
  clear hs2 hLP hhP hlP hnP
  obtain ⟨c0, c1, c2, c3⟩ := cells4 hbY1
  go_wp2_with fail
  have hw2 : Below w.heap.size w w2 := HB0.out.trans (HB2.out.mono HB0.out.size)
  refine (SmallType_any Y _ w2 (HY.out.box hw2)).mono ?_
  rintro e w3 ⟨rfl, hb3⟩
  have HB3 := Lib.hid (HB2.out.trans (hb3.mono HB2.out.size))
  have hbP3 := bget' HB3.out HBP.out
  clear hb3 hbY1 c0 c1 c2 c3 hw2
  cases hs3 : SmallTypeB Y
  · go_wp2_with fail
    refine (known_any w3).mono ?_
    rintro e w4 ⟨rfl, hb4⟩
    go_wp2
    go_ret
    exact ⟨rfl, HB0.out.trans ((HB3.out.trans (hb4.mono HB3.out.size)).mono HB0.out.size)⟩
  have hhY := SmallType_height hs3
  clear hs3
  obtain ⟨c0, c1, c2, c3⟩ := cells4 hbP3
  have HBV : ∀ V, Below W.heap.size W V → Below w.heap.size w V := fun V hb => HB0.out.trans (hb.mono HB0.out.size)
  have C29 := Lib.hid fun V hb => Check_any T _ V (HV.out.boxed (HBV V hb)) hh HOK.out
  have C30 := Lib.hid fun V hb => refTermB_eq T ▸ Term_any T _ V (HV.out.boxed (HBV V hb)) HOK.out
  have C31 := Lib.hid fun V hb => CheckPat_any P _ V (HP.out.box (HBV V hb)) HHP.out
  have C26 := Lib.hid fun V hb => refPatB_eq P ▸ Pat_any P _ V (HP.out.box (HBV V hb))
  have C32 := Lib.hid fun V hb => CheckType_any Y _ V (HY.out.box (HBV V hb)) hhY
  have C33 := Lib.hid fun V hb => refTypeB_eq Y ▸ Type_any Y _ V (HY.out.box (HBV V hb))
  have C24 := Lib.hid fun V hb => Names_any P _ V (HP.out.box (HBV V hb)) HHP.out HLN.out
  have C28 := Lib.hid fun V hb hn => PatNames_any P _ V (HP.out.box (HBV V hb)) HLP.out hn
  have hfin : ∀ V, Below W.heap.size W V → ∀ V', Below V.heap.size V V' → Below W.heap.size W V' := fun V h V' h' => h.trans (h'.mono h.size)
  have HFIN := Lib.hid hfin
  have HHBV := Lib.hid HBV
  clear HBV hfin
  go_wp2_with fail
  refine (C24.out w3 HB3.out).mono ?_
  rintro e w4 ⟨hne, hb4⟩
  have HB4 := Lib.hid (HFIN.out _ HB3.out _ hb4)
  have hbP4 := bget' HB4.out HBP.out
  clear hb4 hbP3 c0 c1 c2 c3
  obtain ⟨c0, c1, c2, c3⟩ := cells4 hbP4
  unfold NamesEnd at hne
  cases hpb : patB P with
  | false =>
    rw [hpb, if_neg (by simp)] at hne
    subst hne
    go_wp2_with fail
    refine (C26.out w4 HB4.out).mono ?_
    rintro e w5 ⟨rfl, hb5⟩
    rw [hpb]
    have HB5 := Lib.hid (HFIN.out _ HB4.out _ hb5)
    have HPB := Lib.hid hpb
    clear hb5 hpb hbP4 c0 c1 c2 c3
    go_wp2_with fail
    refine (err_any false w5).mono ?_
    rintro e w6 ⟨rfl, hb6⟩
    have he : errOf false = 2 := rfl
    rw [he]
    have HB6 := Lib.hid (HFIN.out _ HB5.out _ hb6)
    clear hb6 he
    go_upto_region 6 with fail
    refine reg4 (a := _) rfl rfl rfl rfl (bget' HB6.out HBT.out) (bget' HB6.out HBP.out) (bget' HB6.out HBY.out) (fun V hb => C29.out V (HFIN.out _ HB6.out _ hb)) (fun V hb => C30.out V (HFIN.out _ HB6.out _ hb)) (fun V hb => C31.out V (HFIN.out _ HB6.out _ hb)) (fun V hb => C26.out V (HFIN.out _ HB6.out _ hb)) (fun V hb => C32.out V (HFIN.out _ HB6.out _ hb)) (fun V hb => C33.out V (HFIN.out _ HB6.out _ hb)) known_any ?_
    rintro ⟨t9, d9⟩ w9 hz hd h6 hb9
    obtain rfl : d9 = [] := hd
    have g6 := tmp_get h6 (by omega)
    go_wp2
    go_ret
    have e6 : t9.getD 6 undef = .bool true := by rw [Array.getD_eq_getD_getElem?, h6]; rfl
    exact ⟨congrArg Ending.returned e6, HHBV.out _ (HFIN.out _ HB6.out _ hb9)⟩
  | true =>
    rw [hpb, if_pos rfl] at hne
    obtain ⟨v2, rfl, hv2⟩ := hne
    obtain ⟨va, vc, rfl⟩ := hv2.split
    have hv4 : SlIn (fun b => b < w4.heap.size) (.slice va (namesP P).length vc) (namesP P).length fun b o => StrsAt w4 (namesP P) b o := hv2.mono (fun b h => h.2) fun _ _ _ h => h
    have HV4 := Lib.hid hv4
    clear hv2 hv4
    go_wp2_with fail
    refine (C26.out w4 HB4.out).mono ?_
    rintro e w5 ⟨rfl, hb5⟩
    rw [hpb]
    have HB5 := Lib.hid (HFIN.out _ HB4.out _ hb5)
    have HB45 := Lib.hid hb5
    have HPB := Lib.hid hpb
    clear hb5 hpb hbP4 c0 c1 c2 c3
    go_wp2_with fail
    refine (err_any true w5).mono ?_
    rintro e w6 ⟨rfl, hb6⟩
    have he : errOf true = 0 := rfl
    rw [he]
    have HB6 := Lib.hid (HFIN.out _ HB5.out _ hb6)
    have HB46 := Lib.hid (HB45.out.trans (hb6.mono HB45.out.size))
    have hbP6 := bget' HB6.out HBP.out
    clear hb6 he
    obtain ⟨c0, c1, c2, c3⟩ := cells4 hbP6
    go_wp2_with fail
    have hnm := patB_names HPB.out
    refine (C28.out w6 HB6.out (by rw [hnm]; exact HNP.out)).mono ?_
    rintro e w7 ⟨⟨v7, rfl, hv7⟩, hb7⟩
    rw [hnm] at hv7
    have HB7 := Lib.hid (HFIN.out _ HB6.out _ hb7)
    have hb47 := HB46.out.trans (hb7.mono HB46.out.size)
    have hs1 : SlV w7.heap.size (.slice va (namesP P).length vc) (namesP P).length fun b o => StrsAt w7 (namesP P) b o := (HV4.out.mono (B' := fun b => b < w4.heap.size) (R' := fun b o => StrsAt w7 (namesP P) b o) (fun b h => h) fun b o h hs => StrsAt.keep hb47 _ _ _ h hs).to (fun b h => Nat.lt_of_lt_of_le h hb47.size) fun _ _ h => h
    have hs2 : SlV w7.heap.size v7 (namesP P).length fun b o => StrsAt w7 (namesP P) b o := hv7.to (fun b h => h.2) fun _ _ h => h
    have HC := Lib.hid (SameNames_any (namesP P) (namesP P) _ v7 w7 hs1 hs2 HNP.out)
    clear c0 c1 c2 c3 hb7 hbP6 hb47 hs1 hs2 hv7 hnm
    go_wp2_with fail
    refine HC.out.mono ?_
    rintro e w8 ⟨rfl, hb8⟩
    rw [sameL_self]
    have HB8 := Lib.hid (HFIN.out _ HB7.out _ hb8)
    clear hb8 HC
    go_upto_region 6 with fail
    refine reg4 (a := _) rfl rfl rfl rfl (bget' HB8.out HBT.out) (bget' HB8.out HBP.out) (bget' HB8.out HBY.out) (fun V hb => C29.out V (HFIN.out _ HB8.out _ hb)) (fun V hb => C30.out V (HFIN.out _ HB8.out _ hb)) (fun V hb => C31.out V (HFIN.out _ HB8.out _ hb)) (fun V hb => C26.out V (HFIN.out _ HB8.out _ hb)) (fun V hb => C32.out V (HFIN.out _ HB8.out _ hb)) (fun V hb => C33.out V (HFIN.out _ HB8.out _ hb)) known_any ?_
    rintro ⟨t9, d9⟩ w9 hz hd h6 hb9
    obtain rfl : d9 = [] := hd
    have g6 := tmp_get h6 (by omega)
    go_wp2
    go_ret
    have e6 : t9.getD 6 undef = .bool true := by rw [Array.getD_eq_getD_getElem?, h6]; rfl
    exact ⟨congrArg Ending.returned e6, HHBV.out _ (HFIN.out _ HB8.out _ hb9)⟩

end Go.Proofs.YtjpahjfjpkbcnaaGreat

/- Lists of numbers, of strings, and modules that are read as data, as trees. -/
namespace Go.Proofs.YtjpahjfjpkbcnaaGreat
open Go.ChangeShapes Go.WideShapes Go.ChangeAt Go.RowKit
set_option maxRecDepth 100000

theorem Tz.cells59 : Tryz.prog.cellsOf 59 = 1 := by kernel_rfl
theorem Tz.cells53 : Tryz.prog.cellsOf 53 = 1 := by kernel_rfl
theorem Tz.cells54 : Tryz.prog.cellsOf 54 = 1 := by kernel_rfl
theorem Tz.cells56 : Tryz.prog.cellsOf 56 = 3 := by kernel_rfl
theorem Tz.cells110 : Tryz.prog.cellsOf 110 = 1 := by kernel_rfl
theorem Tz.cells112 : Tryz.prog.cellsOf 112 = 2 := by kernel_rfl
theorem Tz.cells114 : Tryz.prog.cellsOf 114 = 15 := by kernel_rfl
theorem Tz.cells145 : Tryz.prog.cellsOf 145 = 2 := by kernel_rfl

/-- A constructor, a data type, a function, a module. -/
structure Co where
  name : ByteArray
  types : List Ty
structure Dt where
  name : ByteArray
  cons : List Co
structure Fn where
  name : ByteArray
  param : ByteArray
  dom : Ty
  cod : Ty
  body : Tm
structure Md where
  name : ByteArray
  datas : List Dt
  funs : List Fn
instance : Inhabited Co := ⟨⟨⟨#[]⟩, []⟩⟩
instance : Inhabited Dt := ⟨⟨⟨#[]⟩, []⟩⟩
instance : Inhabited Fn := ⟨⟨⟨#[]⟩, ⟨#[]⟩, .mk 0 0 ⟨#[]⟩ [], .mk 0 0 ⟨#[]⟩ [], .mk 0 0 ⟨#[]⟩ [] []⟩⟩

def CoAt (n₀ : Nat) (w : World) (c : Co) (v : Value) : Prop := ∃ kv, v = .agg #[.string c.name, kv] ∧ c.name.size ≤ maxLen ∧ SlV n₀ kv c.types.length fun b o => TysAt n₀ w c.types b o
def CosAt (n₀ : Nat) (w : World) (cs : List Co) (b o : Nat) : Prop := ∀ i (h : i < cs.length), ∃ c0 c1, w.cell? ⟨b, o + i * 2, none⟩ = some c0 ∧ w.cell? ⟨b, o + i * 2 + 1, none⟩ = some c1 ∧ CoAt n₀ w cs[i] (.agg #[c0, c1])
def DtAt (n₀ : Nat) (w : World) (d : Dt) (v : Value) : Prop := ∃ kv, v = .agg #[.string d.name, kv] ∧ d.name.size ≤ maxLen ∧ SlV n₀ kv d.cons.length fun b o => CosAt n₀ w d.cons b o
def DtsAt (n₀ : Nat) (w : World) (ds : List Dt) (b o : Nat) : Prop := ∀ i (h : i < ds.length), ∃ c0 c1, w.cell? ⟨b, o + i * 2, none⟩ = some c0 ∧ w.cell? ⟨b, o + i * 2 + 1, none⟩ = some c1 ∧ DtAt n₀ w ds[i] (.agg #[c0, c1])
def FnAt (n₀ : Nat) (w : World) (f : Fn) (v : Value) : Prop := ∃ a0 a1 a2 a3 b0 b1 b2 b3 d0 d1 d2 d3 d4, v = .agg #[.string f.name, .string f.param, a0, a1, a2, a3, b0, b1, b2, b3, d0, d1, d2, d3, d4] ∧ f.name.size ≤ maxLen ∧ f.param.size ≤ maxLen ∧
  TyAt n₀ w f.dom (.agg #[a0, a1, a2, a3]) ∧ TyAt n₀ w f.cod (.agg #[b0, b1, b2, b3]) ∧ TmAt n₀ w f.body (.agg #[d0, d1, d2, d3, d4])
def FnsAt (n₀ : Nat) (w : World) (fs : List Fn) (b o : Nat) : Prop := ∀ i (h : i < fs.length), ∃ cs : List Value, cs.length = 15 ∧ (∀ j, j < 15 → w.cell? ⟨b, o + i * 15 + j, none⟩ = cs[j]?) ∧ FnAt n₀ w fs[i] (.agg cs.toArray)
def MdAt (n₀ : Nat) (w : World) (m : Md) (v : Value) : Prop := ∃ dv fv, v = .agg #[.string m.name, dv, fv] ∧ m.name.size ≤ maxLen ∧ (SlV n₀ dv m.datas.length fun b o => DtsAt n₀ w m.datas b o) ∧ SlV n₀ fv m.funs.length fun b o => FnsAt n₀ w m.funs b o

section
variable {H : Type} {enc : TypeId × Value → H} {W : World} {spare : Nat → Bool} {held : Bool}

theorem cells_two {w : World} {b o : Nat} {cs : List Value} (hl : cs.length = 2) (h : ∀ j, j < 2 → w.cell? ⟨b, o + j, none⟩ = cs[j]?) :
    ∃ c0 c1, cs = [c0, c1] ∧ w.cell? ⟨b, o, none⟩ = some c0 ∧ w.cell? ⟨b, o + 1, none⟩ = some c1 := by
  match cs, hl with
  | [c0, c1], _ => exact ⟨c0, c1, rfl, h 0 (by omega), h 1 (by omega)⟩

theorem co_open (fuel : Nat) (cs : List Value) (x : DataW H × List MemPlace) : DataW.trod enc Tryz.prog W 0 spare held fuel 145 cs = some x → ∃ c : Co, CoAt W.heap.size W c (.agg cs.toArray) := by
  intro h
  obtain ⟨xs, n, rfl, rfl, hl, hxl, hf⟩ := DataW.trod_struct Tryz.underlying145 h
  rw [Tz.cells145] at hl
  have hxl' : xs.length = 2 := hxl
  match cs, hl, xs, hxl', hf with
  | [c0, c1], _, [y0, y1], _, hf =>
    have f0 : DataW.trod enc Tryz.prog W 0 spare held n 9 (List.take (Tryz.prog.cellsOf 9) (List.drop 0 [c0, c1])) = some y0 := hf 0 _ rfl
    rw [Tz.cells9] at f0
    change DataW.trod enc Tryz.prog W 0 spare held n 9 [c0] = some y0 at f0
    have f1 : DataW.trod enc Tryz.prog W 0 spare held n 37 (List.take (Tryz.prog.cellsOf 37) (List.drop 1 [c0, c1])) = some y1 := hf 1 _ rfl
    rw [Tz.cells37] at f1
    change DataW.trod enc Tryz.prog W 0 spare held n 37 [c1] = some y1 at f1
    obtain ⟨s, e0, -, hs⟩ := DataW.trod_string Tryz.underlying9 f0
    obtain ⟨v, ps, e1, hsl⟩ := slice_open (α := Ty) Tryz.underlying37 Tz.cells39 (by decide) (fun p cs => TyAt W.heap.size W p (.agg cs.toArray)) (fun k cs' x' hk h' => ty_open k cs' x' h') f1
    simp only [List.cons.injEq, and_true] at e0 e1
    subst e0 e1
    exact ⟨⟨s, ps⟩, _, rfl, hs, hsl.mono (Nat.le_refl _) fun b o _ hr => tysAt_of ps o hr⟩
theorem dt_open (fuel : Nat) (cs : List Value) (x : DataW H × List MemPlace) : DataW.trod enc Tryz.prog W 0 spare held fuel 112 cs = some x → ∃ c : Dt, DtAt W.heap.size W c (.agg cs.toArray) := by
  intro h
  obtain ⟨xs, n, rfl, rfl, hl, hxl, hf⟩ := DataW.trod_struct Tryz.underlying112 h
  rw [Tz.cells112] at hl
  have hxl' : xs.length = 2 := hxl
  match cs, hl, xs, hxl', hf with
  | [c0, c1], _, [y0, y1], _, hf =>
    have f0 : DataW.trod enc Tryz.prog W 0 spare held n 9 (List.take (Tryz.prog.cellsOf 9) (List.drop 0 [c0, c1])) = some y0 := hf 0 _ rfl
    rw [Tz.cells9] at f0
    change DataW.trod enc Tryz.prog W 0 spare held n 9 [c0] = some y0 at f0
    have f1 : DataW.trod enc Tryz.prog W 0 spare held n 110 (List.take (Tryz.prog.cellsOf 110) (List.drop 1 [c0, c1])) = some y1 := hf 1 _ rfl
    rw [Tz.cells110] at f1
    change DataW.trod enc Tryz.prog W 0 spare held n 110 [c1] = some y1 at f1
    obtain ⟨s, e0, -, hs⟩ := DataW.trod_string Tryz.underlying9 f0
    obtain ⟨v, ps, e1, hsl⟩ := slice_open (α := Co) Tryz.underlying110 Tz.cells145 (by decide) (fun p cs => CoAt W.heap.size W p (.agg cs.toArray)) (fun k cs' x' hk h' => co_open k cs' x' h') f1
    simp only [List.cons.injEq, and_true] at e0 e1
    subst e0 e1
    refine ⟨⟨s, ps⟩, _, rfl, hs, hsl.mono (Nat.le_refl _) fun b o _ hr i hi => ?_⟩
    obtain ⟨cs', hl', hc, hp⟩ := hr i hi
    obtain ⟨c0, c1, rfl, h0, h1⟩ := cells_two hl' hc
    exact ⟨c0, c1, h0, h1, hp⟩
theorem fn_open (fuel : Nat) (cs : List Value) (x : DataW H × List MemPlace) : DataW.trod enc Tryz.prog W 0 spare held fuel 114 cs = some x → ∃ c : Fn, FnAt W.heap.size W c (.agg cs.toArray) := by
  intro h
  obtain ⟨xs, n, rfl, rfl, hl, hxl, hf⟩ := DataW.trod_struct Tryz.underlying114 h
  rw [Tz.cells114] at hl
  have hxl' : xs.length = 5 := hxl
  match cs, hl, xs, hxl', hf with
  | [c0, c1, c2, c3, c4, c5, c6, c7, c8, c9, c10, c11, c12, c13, c14], _, [y0, y1, y2, y3, y4], _, hf =>
    have f0 : DataW.trod enc Tryz.prog W 0 spare held n 9 (List.take (Tryz.prog.cellsOf 9) (List.drop 0 [c0, c1, c2, c3, c4, c5, c6, c7, c8, c9, c10, c11, c12, c13, c14])) = some y0 := hf 0 _ rfl
    rw [Tz.cells9] at f0
    change DataW.trod enc Tryz.prog W 0 spare held n 9 [c0] = some y0 at f0
    have f1 : DataW.trod enc Tryz.prog W 0 spare held n 9 (List.take (Tryz.prog.cellsOf 9) (List.drop 1 [c0, c1, c2, c3, c4, c5, c6, c7, c8, c9, c10, c11, c12, c13, c14])) = some y1 := hf 1 _ rfl
    rw [Tz.cells9] at f1
    change DataW.trod enc Tryz.prog W 0 spare held n 9 [c1] = some y1 at f1
    have f2 : DataW.trod enc Tryz.prog W 0 spare held n 39 (List.take (Tryz.prog.cellsOf 39) (List.drop 2 [c0, c1, c2, c3, c4, c5, c6, c7, c8, c9, c10, c11, c12, c13, c14])) = some y2 := hf 2 _ rfl
    rw [Tz.cells39] at f2
    change DataW.trod enc Tryz.prog W 0 spare held n 39 [c2, c3, c4, c5] = some y2 at f2
    have f3 : DataW.trod enc Tryz.prog W 0 spare held n 39 (List.take (Tryz.prog.cellsOf 39) (List.drop 6 [c0, c1, c2, c3, c4, c5, c6, c7, c8, c9, c10, c11, c12, c13, c14])) = some y3 := hf 3 _ rfl
    rw [Tz.cells39] at f3
    change DataW.trod enc Tryz.prog W 0 spare held n 39 [c6, c7, c8, c9] = some y3 at f3
    have f4 : DataW.trod enc Tryz.prog W 0 spare held n 32 (List.take (Tryz.prog.cellsOf 32) (List.drop 10 [c0, c1, c2, c3, c4, c5, c6, c7, c8, c9, c10, c11, c12, c13, c14])) = some y4 := hf 4 _ rfl
    rw [Tz.cells32] at f4
    change DataW.trod enc Tryz.prog W 0 spare held n 32 [c10, c11, c12, c13, c14] = some y4 at f4
    obtain ⟨s0, e0, -, hs0⟩ := DataW.trod_string Tryz.underlying9 f0
    obtain ⟨s1, e1, -, hs1⟩ := DataW.trod_string Tryz.underlying9 f1
    obtain ⟨p2, hp2⟩ := ty_open _ _ _ f2
    obtain ⟨p3, hp3⟩ := ty_open _ _ _ f3
    obtain ⟨p4, hp4⟩ := tm_open _ _ _ f4
    simp only [List.cons.injEq, and_true] at e0 e1
    subst e0 e1
    exact ⟨⟨s0, s1, p2, p3, p4⟩, _, _, _, _, _, _, _, _, _, _, _, _, _, rfl, hs0, hs1, hp2, hp3, hp4⟩
theorem md_open (fuel : Nat) (cs : List Value) (x : DataW H × List MemPlace) : DataW.trod enc Tryz.prog W 0 spare held fuel 56 cs = some x → ∃ m : Md, MdAt W.heap.size W m (.agg cs.toArray) := by
  intro h
  obtain ⟨xs, n, rfl, rfl, hl, hxl, hf⟩ := DataW.trod_struct Tryz.underlying56 h
  rw [Tz.cells56] at hl
  have hxl' : xs.length = 3 := hxl
  match cs, hl, xs, hxl', hf with
  | [c0, c1, c2], _, [y0, y1, y2], _, hf =>
    have f0 : DataW.trod enc Tryz.prog W 0 spare held n 9 (List.take (Tryz.prog.cellsOf 9) (List.drop 0 [c0, c1, c2])) = some y0 := hf 0 _ rfl
    rw [Tz.cells9] at f0
    change DataW.trod enc Tryz.prog W 0 spare held n 9 [c0] = some y0 at f0
    have f1 : DataW.trod enc Tryz.prog W 0 spare held n 53 (List.take (Tryz.prog.cellsOf 53) (List.drop 1 [c0, c1, c2])) = some y1 := hf 1 _ rfl
    rw [Tz.cells53] at f1
    change DataW.trod enc Tryz.prog W 0 spare held n 53 [c1] = some y1 at f1
    have f2 : DataW.trod enc Tryz.prog W 0 spare held n 54 (List.take (Tryz.prog.cellsOf 54) (List.drop 2 [c0, c1, c2])) = some y2 := hf 2 _ rfl
    rw [Tz.cells54] at f2
    change DataW.trod enc Tryz.prog W 0 spare held n 54 [c2] = some y2 at f2
    obtain ⟨s, e0, -, hs⟩ := DataW.trod_string Tryz.underlying9 f0
    obtain ⟨v, ps, e1, hsl⟩ := slice_open (α := Dt) Tryz.underlying53 Tz.cells112 (by decide) (fun p cs => DtAt W.heap.size W p (.agg cs.toArray)) (fun k cs' x' hk h' => dt_open k cs' x' h') f1
    obtain ⟨v', qs, e2, hsl'⟩ := slice_open (α := Fn) Tryz.underlying54 Tz.cells114 (by decide) (fun p cs => FnAt W.heap.size W p (.agg cs.toArray)) (fun k cs' x' hk h' => fn_open k cs' x' h') f2
    simp only [List.cons.injEq, and_true] at e0 e1 e2
    subst e0 e1 e2
    refine ⟨⟨s, ps, qs⟩, _, _, rfl, hs, hsl.mono (Nat.le_refl _) fun b o _ hr i hi => ?_, hsl'.mono (Nat.le_refl _) fun b o _ hr => hr⟩
    obtain ⟨cs', hl', hc, hp⟩ := hr i hi
    obtain ⟨c0, c1, rfl, h0, h1⟩ := cells_two hl' hc
    exact ⟨c0, c1, h0, h1, hp⟩
theorem open_md {r : Reach} {b0 : Nat} {v : Value} {d : DataW H} {ps : List MemPlace} (hv : Value.okWide Tryz.prog W r b0 56 v) (h : DataW.Trod enc Tryz.prog W 0 spare held 56 v d ps) : ∃ m : Md, MdAt W.heap.size W m v := by
  obtain ⟨cs, rfl, -⟩ := okWide_struct Tryz.underlying56 hv
  obtain ⟨fuel, hf⟩ := h
  obtain ⟨T, hT⟩ := md_open fuel _ _ hf
  exact ⟨T, by simpa [Value.cells] using hT⟩

theorem intsAt_of {w : World} {b : Nat} : ∀ (xs : List Int) (o : Nat), (∀ i (h : i < xs.length), w.cell? ⟨b, o + i, none⟩ = some (.int .i64 xs[i])) → IntsAt w xs b o
  | [], _, _ => trivial
  | x :: xs, o, h => ⟨h 0 (Nat.succ_pos _), intsAt_of xs (o + 1) fun i hi => by
      have := h (i + 1) (by simpa using hi)
      rw [show o + 1 + i = o + (i + 1) by omega]
      simpa using this⟩
theorem strsAt_of2 {w : World} {b : Nat} : ∀ (ss : List ByteArray) (o : Nat), (∀ i (h : i < ss.length), w.cell? ⟨b, o + i, none⟩ = some (.string ss[i]) ∧ ss[i].size ≤ maxLen) → StrsAt w ss b o
  | [], _, _ => trivial
  | s :: ss, o, h => ⟨h 0 (Nat.succ_pos _), strsAt_of2 ss (o + 1) fun i hi => by
      have := h (i + 1) (by simpa using hi)
      rw [show o + 1 + i = o + (i + 1) by omega]
      simpa using this⟩
theorem open_ns {r : Reach} {b0 : Nat} {v : Value} {d : DataW H} {ps : List MemPlace} (hv : Value.okWide Tryz.prog W r b0 59 v) (h : DataW.Trod enc Tryz.prog W 0 spare held 59 v d ps) : ∃ l : List Int, SlV W.heap.size v l.length fun b o => IntsAt W l b o := by
  obtain ⟨a0, len, cap, rfl⟩ := okWide_slice Tryz.underlying59 hv
  obtain ⟨fuel, hf⟩ := h
  obtain ⟨v, l, e, hsl⟩ := slice_open (α := Int) Tryz.underlying59 Tz.cells3 (by decide) (fun n cs => cs = [.int .i64 n]) (fun k cs' x' hk h' => by obtain ⟨m, e, -⟩ := DataW.trod_int Tryz.underlying3 h'; exact ⟨m, e⟩) hf
  simp [Value.cells] at e
  subst e
  refine ⟨l, hsl.mono (Nat.le_refl _) fun b o _ hr => intsAt_of l o fun i hi => ?_⟩
  obtain ⟨cs', -, hc, rfl⟩ := hr i hi
  simpa using hc 0 (by decide)
theorem open_ss {r : Reach} {b0 : Nat} {v : Value} {d : DataW H} {ps : List MemPlace} (hv : Value.okWide Tryz.prog W r b0 22 v) (h : DataW.Trod enc Tryz.prog W 0 spare held 22 v d ps) : ∃ l : List ByteArray, SsAt W.heap.size W l v := by
  obtain ⟨a0, len, cap, rfl⟩ := okWide_slice Tryz.underlying22 hv
  obtain ⟨fuel, hf⟩ := h
  obtain ⟨v, l, e, hsl⟩ := slice_open (α := ByteArray) Tryz.underlying22 Tz.cells9 (by decide) (fun s cs => cs = [.string s] ∧ s.size ≤ maxLen) (fun k cs' x' hk h' => by obtain ⟨s, e, -, hs⟩ := DataW.trod_string Tryz.underlying9 h'; exact ⟨s, e, hs⟩) hf
  simp [Value.cells] at e
  subst e
  refine ⟨l, hsl.mono (Nat.le_refl _) fun b o _ hr => strsAt_of2 l o fun i hi => ?_⟩
  obtain ⟨cs', -, hc, rfl, hs⟩ := hr i hi
  exact ⟨by simpa using hc 0 (by decide), hs⟩
end

end Go.Proofs.YtjpahjfjpkbcnaaGreat

/- Which data types are small, and which are formed, by the specification. -/
namespace Go.Proofs.YtjpahjfjpkbcnaaGreat
open Go.Proofs Go.RowKit

theorem cells2 {W : World} {b : Nat} {c0 c1 : Value} {t : TypeId} (h : W.heap[b]? = some (.cells #[c0, c1] t (0, 0))) : W.cell? ⟨b, 0, none⟩ = some c0 ∧ W.cell? ⟨b, 1, none⟩ = some c1 := ⟨cell_box h, cell_box h⟩

def smallCo (c : Co) : Bool := decide (c.name.size ≤ 30) && decide (c.types.length ≤ 6) && c.types.all SmallTypeB
def smallDt (d : Dt) : Bool := decide (d.name.size ≤ 30) && decide (d.cons.length ≤ 8) && d.cons.all smallCo

set_option maxHeartbeats 4000000 in
theorem smallData_any (d : Dt) (v : Value) (w : World) (hv : DtAt w.heap.size w d v) :
    Calls Tryz.prog 94 #[v] w fun e w' => e = .returned (.bool (smallDt d)) ∧ Below w.heap.size w w' := by
  obtain ⟨kv, rfl, htx, hk⟩ := hv
  obtain ⟨a, cap, rfl, hcap, hlc, hka⟩ := hk.split
  have hbx := heap_alloc_new w (.cells #[.string d.name, .slice a d.cons.length cap] 112)
  have hb0 := (Below.refl w.heap.size w).alloc (Nat.le_refl _) (.cells #[.string d.name, .slice a d.cons.length cap] 112)
  unfold maxLen at hcap htx
  have hr : smallDt d = (decide (d.name.size ≤ 30) && decide (d.cons.length ≤ 8) && d.cons.all smallCo) := rfl
  have HR := Lib.hid hr
  have HKA := Lib.hid hka; have HBX := Lib.hid hbx; have HB0 := Lib.hid hb0
  have hszA : (w.alloc (.cells #[.string d.name, .slice a d.cons.length cap] 112)).heap.size = w.heap.size + 1 := by simp
  clear hk hka hr hb0
  obtain ⟨c0, c1⟩ := cells2 hbx
  by_cases h30 : d.name.size ≤ 30
  case neg =>
    have h30' : 30 < ((d.name.size : Nat) : Int) := by omega
    have hend : smallDt d = false := by rw [HR.out, decide_eq_false h30, Bool.false_and, Bool.false_and]
    have HEND := Lib.hid hend
    clear hend hbx
    go_enter Tryz.func94, Tryz.ntmps94
    go_wp2
    go_ret
    exact ⟨ret_bool HEND.out.symm, HB0.out⟩
  have h30' : ((d.name.size : Nat) : Int) ≤ 30 := by omega
  by_cases h8 : d.cons.length ≤ 8
  case neg =>
    have h8' : 8 < (d.cons.length : Int) := by omega
    have hend : smallDt d = false := by rw [HR.out, decide_eq_false h8, Bool.and_false, Bool.false_and]
    have HEND := Lib.hid hend
    clear hend hbx
    go_enter Tryz.func94, Tryz.ntmps94
    go_wp2
    go_ret
    exact ⟨ret_bool HEND.out.symm, HB0.out⟩
  have h8' : (d.cons.length : Int) ≤ 8 := by omega
  have hr2 : smallDt d = d.cons.all smallCo := by rw [HR.out, decide_eq_true h30, decide_eq_true h8]; rfl
  have HR2 := Lib.hid hr2
  clear hbx hr2 HR
  go_enter Tryz.func94, Tryz.ntmps94
  go_wp2
  clear c0 c1
  go_loopw [3] (fun i wr => ∃ (k : Nat), k ≤ d.cons.length ∧ i = .int .i64 k ∧ Hid (d.cons.all smallCo = (d.cons.drop k).all smallCo) ∧ Below (w.heap.size + 1) (w.alloc (.cells #[.string d.name, .slice a d.cons.length cap] 112)) wr) (fun i _ => d.cons.length - (intOf i).toNat)
  case atStart => exact ⟨0, Nat.zero_le _, rfl, rfl, Below.refl _ _⟩
  case round =>
    obtain ⟨k, hk, rfl, HP, hB⟩ := hrel
    have hbx := bget hB HBX.out (by omega)
    obtain ⟨c0, c1⟩ := cells2 hbx
    have hbw : Below w.heap.size w wr := HB0.out.trans (hB.mono (by omega))
    have hsz : w.heap.size + 1 ≤ wr.heap.size := by have := hB.size; simp at this; omega
    by_cases hlt : k < d.cons.length
    · have hlt' : (k : Int) < (d.cons.length : Int) := by omega
      obtain ⟨b, o, rfl, hbn, hps⟩ := HKA.out (by omega)
      obtain ⟨e0, e1, g0, g1, kv2, hev, htx2, hk2⟩ := hps k hlt
      simp only [Value.agg.injEq, Array.mk.injEq, List.cons.injEq, and_true] at hev
      obtain ⟨rfl, rfl⟩ := hev
      obtain ⟨a2, cap2, rfl, hcap2, hlc2, hka2⟩ := hk2.split
      have q0 := (hbw.cell (p := ⟨b, _, none⟩) hbn).trans g0
      have q1 := (hbw.cell (p := ⟨b, _, none⟩) hbn).trans g1
      have hd : (d.cons.drop k).all smallCo = (smallCo d.cons[k] && (d.cons.drop (k + 1)).all smallCo) := by rw [List.drop_eq_getElem_cons hlt, List.all_cons]
      have HB := Lib.hid hB; have HD := Lib.hid hd; have HKA2 := Lib.hid hka2; have HBW := Lib.hid hbw
      clear hB hbx hbw g0 g1 hps hd hk2 hka2
      unfold maxLen at htx2 hcap2
      go_upto_region 7 with fail
      have hx2 := heap_alloc_new wr (.cells #[.string d.cons[k].name, .slice a2 d.cons[k].types.length cap2] 145)
      have hbV := (Below.refl wr.heap.size wr).alloc (Nat.le_refl _) (.cells #[.string d.cons[k].name, .slice a2 d.cons[k].types.length cap2] 145)
      generalize (wr.alloc (.cells #[.string d.cons[k].name, .slice a2 d.cons[k].types.length cap2] 145)) = V at *
      have HX2 := Lib.hid hx2
      have HBV := Lib.hid (HB.out.trans (hbV.mono hsz))
      have hvs := (Array.getElem?_eq_some_iff.1 hx2).1
      clear c0 c1 q0 q1 hbV
      obtain ⟨c0, c1⟩ := cells2 hx2
      clear hx2
      by_cases hc30 : d.cons[k].name.size ≤ 30
      case neg =>
        have hc30' : 30 < ((d.cons[k].name.size : Nat) : Int) := by omega
        have hs : smallCo d.cons[k] = false := by unfold smallCo; rw [decide_eq_false hc30, Bool.false_and, Bool.false_and]
        have HEND := Lib.hid (show smallDt d = false by rw [HR2.out, HP.out, HD.out, hs, Bool.false_and])
        clear hs
        go_wp2
        go_ret
        exact ⟨ret_bool HEND.out.symm, HB0.out.trans (HBV.out.mono (by omega))⟩
      have hc30' : ((d.cons[k].name.size : Nat) : Int) ≤ 30 := by omega
      by_cases hc6 : d.cons[k].types.length ≤ 6
      case neg =>
        have hc6' : 6 < ((d.cons[k].types.length : Nat) : Int) := by omega
        have hs : smallCo d.cons[k] = false := by unfold smallCo; rw [decide_eq_false hc6, Bool.and_false, Bool.false_and]
        have HEND := Lib.hid (show smallDt d = false by rw [HR2.out, HP.out, HD.out, hs, Bool.false_and])
        clear hs
        go_wp2
        go_ret
        exact ⟨ret_bool HEND.out.symm, HB0.out.trans (HBV.out.mono (by omega))⟩
      have hc6' : ((d.cons[k].types.length : Nat) : Int) ≤ 6 := by omega
      have HSC := Lib.hid (show smallCo d.cons[k] = d.cons[k].types.all SmallTypeB by unfold smallCo; rw [decide_eq_true hc30, decide_eq_true hc6]; rfl)
      generalize hcn : d.cons[k] = cn at *
      generalize wr = wc at *
      go_wp2
      clear c0 c1
      go_loopw [5] (fun i wt => ∃ (l : Nat), l ≤ cn.types.length ∧ i = .int .i64 l ∧ Hid (cn.types.all SmallTypeB = (cn.types.drop l).all SmallTypeB) ∧ Below (wc.heap.size + 1) V wt) (fun i _ => cn.types.length - (intOf i).toNat)
      case atStart => exact ⟨0, Nat.zero_le _, rfl, rfl, Below.refl _ _⟩
      case round =>
        obtain ⟨l, hl, rfl, HQ, hB2⟩ := hrel
        have hbx2 := bget hB2 HX2.out (by omega)
        obtain ⟨c0, c1⟩ := cells2 hbx2
        have hbt := HBV.out.trans (hB2.mono (by omega))
        have hbu : Below w.heap.size w wr := HB0.out.trans (hbt.mono (by omega))
        have hszt : wc.heap.size + 1 ≤ wr.heap.size := by have := hB2.size; omega
        have HBT := Lib.hid hbt
        clear hbt
        by_cases hlt2 : l < cn.types.length
        · have hlt2' : (l : Int) < (cn.types.length : Int) := by omega
          obtain ⟨b2, o2, rfl, hbn2, hps2⟩ := HKA2.out (by omega)
          obtain ⟨f0, f1, f2, f3, i0, i1, i2, i3, ht⟩ := TysAt.get cn.types b2 o2 hps2 l hlt2
          obtain ⟨oo, nn, tt, ka, kn, kc, rfl, rfl, rfl, rfl⟩ := ht.shape
          have q0 := (hbu.cell (p := ⟨b2, _, none⟩) hbn2).trans i0
          have q1 := (hbu.cell (p := ⟨b2, _, none⟩) hbn2).trans i1
          have q2 := (hbu.cell (p := ⟨b2, _, none⟩) hbn2).trans i2
          have q3 := (hbu.cell (p := ⟨b2, _, none⟩) hbn2).trans i3
          have hcl := SmallType_any cn.types[l] _ wr (TyAt.keep hbu hbu.size _ _ ht)
          have hd2 : (cn.types.drop l).all SmallTypeB = (SmallTypeB cn.types[l] && (cn.types.drop (l + 1)).all SmallTypeB) := by rw [List.drop_eq_getElem_cons hlt2, List.all_cons]
          cases hx : SmallTypeB cn.types[l] with
          | true =>
            rw [hx, Bool.true_and] at hd2
            rw [hx] at hcl
            have HC := Lib.hid hcl; have HB2 := Lib.hid hB2; have HD2 := Lib.hid hd2
            clear hcl hB2 hbx2 hbu i0 i1 i2 i3 ht hps2 hd2 hx
            go_wp2_with fail
            refine HC.out.mono ?_
            rintro e w1 ⟨rfl, hb1⟩
            have HB3 := Lib.hid (HB2.out.trans (hb1.mono hszt))
            clear hb1 HC c0 c1 q0 q1 q2 q3
            go_wp2
            go_roundw
            case rel => exact ⟨l + 1, by omega, by go_num, by unfold Hid; rw [HQ.out, HD2.out], HB3.out⟩
            case measure => simp [intOf]; omega
          | false =>
            rw [hx, Bool.false_and] at hd2
            rw [hx] at hcl
            have HEND := Lib.hid (show smallDt d = false by rw [HR2.out, HP.out, HD.out, HSC.out, HQ.out, hd2, Bool.false_and])
            have HC := Lib.hid hcl; have HBU := Lib.hid hbu
            clear hcl hB2 hbx2 hbu i0 i1 i2 i3 ht hps2 hd2 hx
            go_wp2_with fail
            refine HC.out.mono ?_
            rintro e w1 ⟨rfl, hb1⟩
            have HB3 := Lib.hid (HBU.out.trans (hb1.mono HBU.out.size))
            clear hb1 HC c0 c1 q0 q1 q2 q3
            go_wp2
            go_ret
            exact ⟨ret_bool HEND.out.symm, HB3.out⟩
        · have hlt2' : ¬ ((l : Int) < (cn.types.length : Int)) := by omega
          have HS2 := Lib.hid (show d.cons.all smallCo = (d.cons.drop (k + 1)).all smallCo by rw [HP.out, HD.out, HSC.out, HQ.out, List.drop_eq_nil_of_le (by omega)]; rfl)
          clear hB2 hbx2 hbu
          go_wp2
          go_roundw
          case rel => exact ⟨k + 1, by omega, by go_num, HS2.out, HBT.out⟩
          case measure => simp [intOf]; omega
    · have hend : smallDt d = true := by rw [HR2.out, HP.out, List.drop_eq_nil_of_le (by omega)]; rfl
      have hlt' : ¬ (k : Int) < (d.cons.length : Int) := by omega
      have HEND := Lib.hid hend; have HBW := Lib.hid hbw
      clear hend hB hbx hbw
      go_wp2
      go_ret
      exact ⟨ret_bool HEND.out.symm, HBW.out⟩


def refCo (c : Co) : Bool := greatB c.name && decide (c.types.length ≤ 3) && c.types.all (refTypeB false)
def refDt (d : Dt) : Bool := greatB d.name && inB d.cons.length 1 5 && d.cons.all refCo

set_option maxHeartbeats 4000000 in
theorem refData_any (d : Dt) (v : Value) (w : World) (hv : DtAt w.heap.size w d v) :
    Calls Tryz.prog 98 #[v] w fun e w' => e = .returned (.bool (refDt d)) ∧ Below w.heap.size w w' := by
  obtain ⟨kv, rfl, htx, hk⟩ := hv
  obtain ⟨a, cap, rfl, hcap, hlc, hka⟩ := hk.split
  have hbx := heap_alloc_new w (.cells #[.string d.name, .slice a d.cons.length cap] 112)
  have hb0 := (Below.refl w.heap.size w).alloc (Nat.le_refl _) (.cells #[.string d.name, .slice a d.cons.length cap] 112)
  unfold maxLen at hcap htx
  have hr : refDt d = (greatB d.name && inB d.cons.length 1 5 && d.cons.all refCo) := rfl
  have HR := Lib.hid hr
  have HKA := Lib.hid hka; have HBX := Lib.hid hbx; have HB0 := Lib.hid hb0
  have hszA : (w.alloc (.cells #[.string d.name, .slice a d.cons.length cap] 112)).heap.size = w.heap.size + 1 := by simp
  clear hk hka hr hb0
  obtain ⟨c0, c1⟩ := cells2 hbx
  have hcl1 := refGreat_any d.name (w.alloc (.cells #[.string d.name, .slice a d.cons.length cap] 112)) (show d.name.size ≤ maxLen by unfold maxLen; omega)
  cases h30 : greatB d.name with
  | false =>
    rw [h30] at hcl1
    have hend : refDt d = false := by rw [HR.out, h30, Bool.false_and, Bool.false_and]
    have HEND := Lib.hid hend; have HC1 := Lib.hid hcl1
    clear hend hbx hcl1 h30
    go_enter Tryz.func98, Tryz.ntmps98
    go_wp2_with fail
    refine HC1.out.mono ?_
    rintro e w1 ⟨rfl, hb1⟩
    go_wp2
    go_ret
    exact ⟨ret_bool HEND.out.symm, HB0.out.trans (hb1.mono HB0.out.size)⟩
  | true =>
  rw [h30] at hcl1
  have HC1 := Lib.hid hcl1; have H30 := Lib.hid h30
  clear hcl1 h30
  cases h8 : inB d.cons.length 1 5 with
  | false =>
    have hend : refDt d = false := by rw [HR.out, h8, Bool.and_false, Bool.false_and]
    have HEND := Lib.hid hend; have H8 := Lib.hid h8
    clear hend h8
    go_enter Tryz.func98, Tryz.ntmps98
    go_wp2_with fail
    refine HC1.out.mono ?_
    rintro e w1 ⟨rfl, hb1⟩
    have hbx1 := bget' hb1 hbx
    clear c0 c1
    obtain ⟨c0, c1⟩ := cells2 hbx1
    go_wp2_with fail
    refine (in_any' _ _ _ _).mono ?_
    rintro e w2 ⟨rfl, hb2⟩
    rw [H8.out]
    go_wp2
    go_ret
    exact ⟨ret_bool HEND.out.symm, (HB0.out.trans (hb1.mono HB0.out.size)).trans (hb2.mono (HB0.out.trans (hb1.mono HB0.out.size)).size)⟩
  | true =>
  have hr2 : refDt d = d.cons.all refCo := by rw [HR.out, H30.out, h8]; rfl
  have HR2 := Lib.hid hr2
  have H8 := Lib.hid h8
  clear hr2 HR h8
  go_enter Tryz.func98, Tryz.ntmps98
  go_wp2_with fail
  refine HC1.out.mono ?_
  rintro e w1 ⟨rfl, hb1⟩
  have hbx1 := bget' hb1 hbx
  clear c0 c1
  obtain ⟨c0, c1⟩ := cells2 hbx1
  go_wp2_with fail
  refine (in_any' _ _ _ _).mono ?_
  rintro e w2 ⟨rfl, hb2⟩
  rw [H8.out]
  have hst : Below (w.heap.size + 1) (w.alloc (.cells #[.string d.name, .slice a d.cons.length cap] 112)) w2 := by
    rw [hszA] at hb1
    exact hb1.trans (hb2.mono (by have := hb1.size; omega))
  have HST := Lib.hid hst
  clear hst hb1 hb2 hbx hbx1 c0 c1
  go_wp2
  go_loopw [3] (fun i wr => ∃ (k : Nat), k ≤ d.cons.length ∧ i = .int .i64 k ∧ Hid (d.cons.all refCo = (d.cons.drop k).all refCo) ∧ Below (w.heap.size + 1) (w.alloc (.cells #[.string d.name, .slice a d.cons.length cap] 112)) wr) (fun i _ => d.cons.length - (intOf i).toNat)
  case atStart => exact ⟨0, Nat.zero_le _, rfl, rfl, HST.out⟩
  case round =>
    obtain ⟨k, hk, rfl, HP, hB⟩ := hrel
    have hbx := bget hB HBX.out (by omega)
    obtain ⟨c0, c1⟩ := cells2 hbx
    have hbw : Below w.heap.size w wr := HB0.out.trans (hB.mono (by omega))
    have hsz : w.heap.size + 1 ≤ wr.heap.size := by have := hB.size; simp at this; omega
    by_cases hlt : k < d.cons.length
    · have hlt' : (k : Int) < (d.cons.length : Int) := by omega
      obtain ⟨b, o, rfl, hbn, hps⟩ := HKA.out (by omega)
      obtain ⟨e0, e1, g0, g1, kv2, hev, htx2, hk2⟩ := hps k hlt
      simp only [Value.agg.injEq, Array.mk.injEq, List.cons.injEq, and_true] at hev
      obtain ⟨rfl, rfl⟩ := hev
      obtain ⟨a2, cap2, rfl, hcap2, hlc2, hka2⟩ := hk2.split
      have q0 := (hbw.cell (p := ⟨b, _, none⟩) hbn).trans g0
      have q1 := (hbw.cell (p := ⟨b, _, none⟩) hbn).trans g1
      have hd : (d.cons.drop k).all refCo = (refCo d.cons[k] && (d.cons.drop (k + 1)).all refCo) := by rw [List.drop_eq_getElem_cons hlt, List.all_cons]
      have HB := Lib.hid hB; have HD := Lib.hid hd; have HKA2 := Lib.hid hka2; have HBW := Lib.hid hbw
      clear hB hbx hbw g0 g1 hps hd hk2 hka2
      unfold maxLen at htx2 hcap2
      go_upto_region 7 with fail
      have hx2 := heap_alloc_new wr (.cells #[.string d.cons[k].name, .slice a2 d.cons[k].types.length cap2] 145)
      have hbV := (Below.refl wr.heap.size wr).alloc (Nat.le_refl _) (.cells #[.string d.cons[k].name, .slice a2 d.cons[k].types.length cap2] 145)
      generalize (wr.alloc (.cells #[.string d.cons[k].name, .slice a2 d.cons[k].types.length cap2] 145)) = V at *
      have HX2 := Lib.hid hx2
      have HBV := Lib.hid (HB.out.trans (hbV.mono hsz))
      have hvs := (Array.getElem?_eq_some_iff.1 hx2).1
      clear c0 c1 q0 q1 hbV
      obtain ⟨c0, c1⟩ := cells2 hx2
      clear hx2
      have hclc := refGreat_any d.cons[k].name V (show d.cons[k].name.size ≤ maxLen by unfold maxLen; omega)
      cases hc30 : greatB d.cons[k].name with
      | false =>
        rw [hc30] at hclc
        have hs : refCo d.cons[k] = false := by unfold refCo; rw [hc30, Bool.false_and, Bool.false_and]
        have HEND := Lib.hid (show refDt d = false by rw [HR2.out, HP.out, HD.out, hs, Bool.false_and])
        have HCC := Lib.hid hclc
        clear hs hclc hc30
        go_wp2_with fail
        refine HCC.out.mono ?_
        rintro e w3 ⟨rfl, hb3⟩
        have hfin := HBV.out.trans (hb3.mono (by have := HBV.out.size; simp at this; omega))
        go_wp2
        go_ret
        exact ⟨ret_bool HEND.out.symm, HB0.out.trans (hfin.mono (by omega))⟩
      | true =>
      rw [hc30] at hclc
      have HCC := Lib.hid hclc; have HC30 := Lib.hid hc30
      clear hclc hc30
      go_wp2_with fail
      refine HCC.out.mono ?_
      rintro e w3 ⟨rfl, hb3⟩
      have hx3 := bget' hb3 HX2.out
      have hbv3 := HBV.out.trans (hb3.mono (by have := HBV.out.size; simp at this; omega))
      have hvs3 := (Array.getElem?_eq_some_iff.1 hx3).1
      clear HX2 HBV c0 c1 hb3 HCC
      have HX2 := Lib.hid hx3; have HBV := Lib.hid hbv3
      obtain ⟨c0, c1⟩ := cells2 hx3
      clear hx3 hbv3 hvs
      generalize w3 = V at *
      by_cases hc6 : d.cons[k].types.length ≤ 3
      case neg =>
        have hc6' : 3 < ((d.cons[k].types.length : Nat) : Int) := by omega
        have hs : refCo d.cons[k] = false := by unfold refCo; rw [decide_eq_false hc6, Bool.and_false, Bool.false_and]
        have HEND := Lib.hid (show refDt d = false by rw [HR2.out, HP.out, HD.out, hs, Bool.false_and])
        clear hs
        go_wp2
        go_ret
        exact ⟨ret_bool HEND.out.symm, HB0.out.trans (HBV.out.mono (by omega))⟩
      have hc6' : ((d.cons[k].types.length : Nat) : Int) ≤ 3 := by omega
      have HSC := Lib.hid (show refCo d.cons[k] = d.cons[k].types.all (refTypeB false) by unfold refCo; rw [HC30.out, decide_eq_true hc6]; rfl)
      generalize hcn : d.cons[k] = cn at *
      generalize wr = wc at *
      go_wp2
      clear c0 c1
      go_loopw [5] (fun i wt => ∃ (l : Nat), l ≤ cn.types.length ∧ i = .int .i64 l ∧ Hid (cn.types.all (refTypeB false) = (cn.types.drop l).all (refTypeB false)) ∧ Below (wc.heap.size + 1) V wt) (fun i _ => cn.types.length - (intOf i).toNat)
      case atStart => exact ⟨0, Nat.zero_le _, rfl, rfl, Below.refl _ _⟩
      case round =>
        obtain ⟨l, hl, rfl, HQ, hB2⟩ := hrel
        have hbx2 := bget hB2 HX2.out (by omega)
        obtain ⟨c0, c1⟩ := cells2 hbx2
        have hbt := HBV.out.trans (hB2.mono (by omega))
        have hbu : Below w.heap.size w wr := HB0.out.trans (hbt.mono (by omega))
        have hszt : wc.heap.size + 1 ≤ wr.heap.size := by have := hB2.size; omega
        have HBT := Lib.hid hbt
        clear hbt
        by_cases hlt2 : l < cn.types.length
        · have hlt2' : (l : Int) < (cn.types.length : Int) := by omega
          obtain ⟨b2, o2, rfl, hbn2, hps2⟩ := HKA2.out (by omega)
          obtain ⟨f0, f1, f2, f3, i0, i1, i2, i3, ht⟩ := TysAt.get cn.types b2 o2 hps2 l hlt2
          obtain ⟨oo, nn, tt, ka, kn, kc, rfl, rfl, rfl, rfl⟩ := ht.shape
          have q0 := (hbu.cell (p := ⟨b2, _, none⟩) hbn2).trans i0
          have q1 := (hbu.cell (p := ⟨b2, _, none⟩) hbn2).trans i1
          have q2 := (hbu.cell (p := ⟨b2, _, none⟩) hbn2).trans i2
          have q3 := (hbu.cell (p := ⟨b2, _, none⟩) hbn2).trans i3
          have hcl := Whole_any cn.types[l] _ wr (TyAt.keep hbu hbu.size _ _ ht)
          have hd2 : (cn.types.drop l).all (refTypeB false) = (refTypeB false cn.types[l] && (cn.types.drop (l + 1)).all (refTypeB false)) := by rw [List.drop_eq_getElem_cons hlt2, List.all_cons]
          cases hx : refTypeB false cn.types[l] with
          | true =>
            rw [hx, Bool.true_and] at hd2
            rw [hx] at hcl
            have HC := Lib.hid hcl; have HB2 := Lib.hid hB2; have HD2 := Lib.hid hd2
            clear hcl hB2 hbx2 hbu i0 i1 i2 i3 ht hps2 hd2 hx
            go_wp2_with fail
            refine HC.out.mono ?_
            rintro e w1 ⟨rfl, hb1⟩
            have HB3 := Lib.hid (HB2.out.trans (hb1.mono hszt))
            clear hb1 HC c0 c1 q0 q1 q2 q3
            go_wp2
            go_roundw
            case rel => exact ⟨l + 1, by omega, by go_num, by unfold Hid; rw [HQ.out, HD2.out], HB3.out⟩
            case measure => simp [intOf]; omega
          | false =>
            rw [hx, Bool.false_and] at hd2
            rw [hx] at hcl
            have HEND := Lib.hid (show refDt d = false by rw [HR2.out, HP.out, HD.out, HSC.out, HQ.out, hd2, Bool.false_and])
            have HC := Lib.hid hcl; have HBU := Lib.hid hbu
            clear hcl hB2 hbx2 hbu i0 i1 i2 i3 ht hps2 hd2 hx
            go_wp2_with fail
            refine HC.out.mono ?_
            rintro e w1 ⟨rfl, hb1⟩
            have HB3 := Lib.hid (HBU.out.trans (hb1.mono HBU.out.size))
            clear hb1 HC c0 c1 q0 q1 q2 q3
            go_wp2
            go_ret
            exact ⟨ret_bool HEND.out.symm, HB3.out⟩
        · have hlt2' : ¬ ((l : Int) < (cn.types.length : Int)) := by omega
          have HS2 := Lib.hid (show d.cons.all refCo = (d.cons.drop (k + 1)).all refCo by rw [HP.out, HD.out, HSC.out, HQ.out, List.drop_eq_nil_of_le (by omega)]; rfl)
          clear hB2 hbx2 hbu
          go_wp2
          go_roundw
          case rel => exact ⟨k + 1, by omega, by go_num, HS2.out, HBT.out⟩
          case measure => simp [intOf]; omega
    · have hend : refDt d = true := by rw [HR2.out, HP.out, List.drop_eq_nil_of_le (by omega)]; rfl
      have hlt' : ¬ (k : Int) < (d.cons.length : Int) := by omega
      have HEND := Lib.hid hend; have HBW := Lib.hid hbw
      clear hend hB hbx hbw
      go_wp2
      go_ret
      exact ⟨ret_bool HEND.out.symm, HBW.out⟩

end Go.Proofs.YtjpahjfjpkbcnaaGreat

/- Which modules are small. -/
namespace Go.Proofs.YtjpahjfjpkbcnaaGreat
open Go.Proofs Go.RowKit

theorem CosAt.keep {n₀ n₁ : Nat} {w w' : World} (hb : Below n₀ w w') (hn : n₀ ≤ n₁) {cs : List Co} {b o : Nat} (hlt : b < n₀) (h : CosAt n₀ w cs b o) : CosAt n₁ w' cs b o := fun i hi => by
  obtain ⟨c0, c1, h0, h1, kv, hv, hs, hk⟩ := h i hi
  exact ⟨c0, c1, (hb.cell (p := ⟨b, _, none⟩) hlt).trans h0, (hb.cell (p := ⟨b, _, none⟩) hlt).trans h1, kv, hv, hs, hk.mono hn fun b o hlt hr => TysAt.keep hb hn _ _ _ hlt hr⟩
theorem DtAt.keep {n₀ n₁ : Nat} {w w' : World} (hb : Below n₀ w w') (hn : n₀ ≤ n₁) {d : Dt} {v : Value} (h : DtAt n₀ w d v) : DtAt n₁ w' d v := by
  obtain ⟨kv, hv, hs, hk⟩ := h
  exact ⟨kv, hv, hs, hk.mono hn fun b o hlt hr => CosAt.keep hb hn hlt hr⟩

theorem cells3 {W : World} {b : Nat} {c0 c1 c2 : Value} {t : TypeId} (h : W.heap[b]? = some (.cells #[c0, c1, c2] t (0, 0))) : W.cell? ⟨b, 0, none⟩ = some c0 ∧ W.cell? ⟨b, 1, none⟩ = some c1 ∧ W.cell? ⟨b, 2, none⟩ = some c2 := ⟨cell_box h, cell_box h, cell_box h⟩
theorem cells15 {W : World} {b : Nat} {x0 x1 x2 x3 x4 x5 x6 x7 x8 x9 x10 x11 x12 x13 x14 : Value} {t : TypeId} (h : W.heap[b]? = some (.cells #[x0, x1, x2, x3, x4, x5, x6, x7, x8, x9, x10, x11, x12, x13, x14] t (0, 0))) : W.cell? ⟨b, 0, none⟩ = some x0 ∧ W.cell? ⟨b, 1, none⟩ = some x1 ∧ W.cell? ⟨b, 2, none⟩ = some x2 ∧ W.cell? ⟨b, 3, none⟩ = some x3 ∧ W.cell? ⟨b, 4, none⟩ = some x4 ∧ W.cell? ⟨b, 5, none⟩ = some x5 ∧ W.cell? ⟨b, 6, none⟩ = some x6 ∧ W.cell? ⟨b, 7, none⟩ = some x7 ∧ W.cell? ⟨b, 8, none⟩ = some x8 ∧ W.cell? ⟨b, 9, none⟩ = some x9 ∧ W.cell? ⟨b, 10, none⟩ = some x10 ∧ W.cell? ⟨b, 11, none⟩ = some x11 ∧ W.cell? ⟨b, 12, none⟩ = some x12 ∧ W.cell? ⟨b, 13, none⟩ = some x13 ∧ W.cell? ⟨b, 14, none⟩ = some x14 :=
  ⟨cell_box h, cell_box h, cell_box h, cell_box h, cell_box h, cell_box h, cell_box h, cell_box h, cell_box h, cell_box h, cell_box h, cell_box h, cell_box h, cell_box h, cell_box h⟩
theorem list15 {w : World} {b o : Nat} {cs : List Value} (hl : cs.length = 15) (h : ∀ j, j < 15 → w.cell? ⟨b, o + j, none⟩ = cs[j]?) :
    ∃ x0 x1 x2 x3 x4 x5 x6 x7 x8 x9 x10 x11 x12 x13 x14, cs = [x0, x1, x2, x3, x4, x5, x6, x7, x8, x9, x10, x11, x12, x13, x14] ∧ w.cell? ⟨b, o, none⟩ = some x0 ∧ w.cell? ⟨b, o + 1, none⟩ = some x1 ∧ w.cell? ⟨b, o + 2, none⟩ = some x2 ∧ w.cell? ⟨b, o + 3, none⟩ = some x3 ∧ w.cell? ⟨b, o + 4, none⟩ = some x4 ∧ w.cell? ⟨b, o + 5, none⟩ = some x5 ∧ w.cell? ⟨b, o + 6, none⟩ = some x6 ∧ w.cell? ⟨b, o + 7, none⟩ = some x7 ∧ w.cell? ⟨b, o + 8, none⟩ = some x8 ∧ w.cell? ⟨b, o + 9, none⟩ = some x9 ∧ w.cell? ⟨b, o + 10, none⟩ = some x10 ∧ w.cell? ⟨b, o + 11, none⟩ = some x11 ∧ w.cell? ⟨b, o + 12, none⟩ = some x12 ∧ w.cell? ⟨b, o + 13, none⟩ = some x13 ∧ w.cell? ⟨b, o + 14, none⟩ = some x14 := by
  match cs, hl with
  | [x0, x1, x2, x3, x4, x5, x6, x7, x8, x9, x10, x11, x12, x13, x14], _ => exact ⟨x0, x1, x2, x3, x4, x5, x6, x7, x8, x9, x10, x11, x12, x13, x14, rfl, h 0 (by omega), h 1 (by omega), h 2 (by omega), h 3 (by omega), h 4 (by omega), h 5 (by omega), h 6 (by omega), h 7 (by omega), h 8 (by omega), h 9 (by omega), h 10 (by omega), h 11 (by omega), h 12 (by omega), h 13 (by omega), h 14 (by omega)⟩

def smallFn (f : Fn) : Bool := decide (f.name.size ≤ 30) && decide (f.param.size ≤ 30) && SmallTypeB f.dom && SmallTypeB f.cod && SmallTermB f.body
def smallMd (m : Md) : Bool := decide (m.name.size ≤ 30) && decide (m.datas.length ≤ 6) && decide (m.funs.length ≤ 8) && m.datas.all smallDt && m.funs.all smallFn

set_option maxHeartbeats 8000000 in
set_option maxRecDepth 100000 in
theorem SmallModule_any (m : Md) (v : Value) (w : World) (hv : MdAt w.heap.size w m v) :
    Calls Tryz.prog 34 #[v] w fun e w' => e = .returned (.bool (smallMd m)) ∧ Below w.heap.size w w' := by
  obtain ⟨dv, fv, rfl, htx, hk, hf⟩ := hv
  obtain ⟨a, cap, rfl, hcap, hlc, hka⟩ := hk.split
  obtain ⟨a', cap', rfl, hcap', hlc', hfa⟩ := hf.split
  have hbx := heap_alloc_new w (.cells #[.string m.name, .slice a m.datas.length cap, .slice a' m.funs.length cap'] 56)
  have hb0 := (Below.refl w.heap.size w).alloc (Nat.le_refl _) (.cells #[.string m.name, .slice a m.datas.length cap, .slice a' m.funs.length cap'] 56)
  unfold maxLen at hcap hcap' htx
  have hr : smallMd m = (decide (m.name.size ≤ 30) && decide (m.datas.length ≤ 6) && decide (m.funs.length ≤ 8) && m.datas.all smallDt && m.funs.all smallFn) := rfl
  have HR := Lib.hid hr
  have HKA := Lib.hid hka; have HFA := Lib.hid hfa; have HBX := Lib.hid hbx; have HB0 := Lib.hid hb0
  have hszA : (w.alloc (.cells #[.string m.name, .slice a m.datas.length cap, .slice a' m.funs.length cap'] 56)).heap.size = w.heap.size + 1 := by simp
  clear hk hka hf hfa hr hb0
  obtain ⟨c0, c1, c2⟩ := cells3 hbx
  clear hbx
  by_cases h30 : m.name.size ≤ 30
  case neg =>
    have h30' : 30 < ((m.name.size : Nat) : Int) := by omega
    have HEND := Lib.hid (show smallMd m = false by rw [HR.out, decide_eq_false h30]; rfl)
    go_enter Tryz.func34, Tryz.ntmps34
    go_wp2
    go_ret
    exact ⟨ret_bool HEND.out.symm, HB0.out⟩
  have h30' : ((m.name.size : Nat) : Int) ≤ 30 := by omega
  by_cases h6 : m.datas.length ≤ 6
  case neg =>
    have h6' : 6 < (m.datas.length : Int) := by omega
    have HEND := Lib.hid (show smallMd m = false by rw [HR.out, decide_eq_false h6, Bool.and_false]; rfl)
    go_enter Tryz.func34, Tryz.ntmps34
    go_wp2
    go_ret
    exact ⟨ret_bool HEND.out.symm, HB0.out⟩
  have h6' : (m.datas.length : Int) ≤ 6 := by omega
  by_cases h8 : m.funs.length ≤ 8
  case neg =>
    have h8' : 8 < (m.funs.length : Int) := by omega
    have HEND := Lib.hid (show smallMd m = false by rw [HR.out, decide_eq_false h8, Bool.and_false]; rfl)
    go_enter Tryz.func34, Tryz.ntmps34
    go_wp2
    go_ret
    exact ⟨ret_bool HEND.out.symm, HB0.out⟩
  have h8' : (m.funs.length : Int) ≤ 8 := by omega
  have HR2 := Lib.hid (show smallMd m = (m.datas.all smallDt && m.funs.all smallFn) by rw [HR.out, decide_eq_true h30, decide_eq_true h6, decide_eq_true h8]; rfl)
  clear HR
  go_enter Tryz.func34, Tryz.ntmps34
  go_wp2
  clear c0 c1 c2
  go_loopw [3] (fun i wr => ∃ (k : Nat), k ≤ m.datas.length ∧ i = .int .i64 k ∧ Hid (m.datas.all smallDt = (m.datas.drop k).all smallDt) ∧ Below (w.heap.size + 1) (w.alloc (.cells #[.string m.name, .slice a m.datas.length cap, .slice a' m.funs.length cap'] 56)) wr) (fun i _ => m.datas.length - (intOf i).toNat)
  case atStart => exact ⟨0, Nat.zero_le _, rfl, rfl, Below.refl _ _⟩
  case round =>
    obtain ⟨k, hk, rfl, HP, hB⟩ := hrel
    have hbx := bget hB HBX.out (by omega)
    obtain ⟨c0, c1, c2⟩ := cells3 hbx
    have hbw : Below w.heap.size w wr := HB0.out.trans (hB.mono (by omega))
    have hsz : w.heap.size + 1 ≤ wr.heap.size := by have := hB.size; simp at this; omega
    by_cases hlt : k < m.datas.length
    · have hlt' : (k : Int) < (m.datas.length : Int) := by omega
      obtain ⟨b, o, rfl, hbn, hps⟩ := HKA.out (by omega)
      obtain ⟨e0, e1, g0, g1, ht⟩ := hps k hlt
      have q0 := (hbw.cell (p := ⟨b, _, none⟩) hbn).trans g0
      have q1 := (hbw.cell (p := ⟨b, _, none⟩) hbn).trans g1
      have hcl := smallData_any m.datas[k] _ wr (DtAt.keep hbw hbw.size ht)
      have hd : (m.datas.drop k).all smallDt = (smallDt m.datas[k] && (m.datas.drop (k + 1)).all smallDt) := by rw [List.drop_eq_getElem_cons hlt, List.all_cons]
      cases hx : smallDt m.datas[k] with
      | true =>
        rw [hx, Bool.true_and] at hd
        rw [hx] at hcl
        have HC := Lib.hid hcl; have HB := Lib.hid hB; have HD := Lib.hid hd
        clear hcl hB hbx hbw g0 g1 ht hps hd hx
        go_wp2_with fail
        refine HC.out.mono ?_
        rintro e w1 ⟨rfl, hb1⟩
        have HB1 := Lib.hid (HB.out.trans (hb1.mono hsz))
        clear hb1 HC c0 c1 c2 q0 q1
        go_wp2
        go_roundw
        case rel => exact ⟨k + 1, by omega, by go_num, by unfold Hid; rw [HP.out, HD.out], HB1.out⟩
        case measure => simp [intOf]; omega
      | false =>
        rw [hx, Bool.false_and] at hd
        rw [hx] at hcl
        have HEND := Lib.hid (show smallMd m = false by rw [HR2.out, HP.out, hd, Bool.false_and])
        have HC := Lib.hid hcl; have HBW := Lib.hid hbw
        clear hcl hB hbx hbw g0 g1 ht hps hd hx
        go_wp2_with fail
        refine HC.out.mono ?_
        rintro e w1 ⟨rfl, hb1⟩
        have HB1 := Lib.hid (HBW.out.trans (hb1.mono HBW.out.size))
        clear hb1 HC c0 c1 c2 q0 q1
        go_wp2
        go_ret
        exact ⟨ret_bool HEND.out.symm, HB1.out⟩
    · have hlt' : ¬ ((k : Int) < (m.datas.length : Int)) := by omega
      have HR3 := Lib.hid (show smallMd m = m.funs.all smallFn by rw [HR2.out, HP.out, List.drop_eq_nil_of_le (by omega)]; show (true && _) = _; rw [Bool.true_and])
      have HB1 := Lib.hid hB
      clear hB hbw hbx hsz HP HR2
      generalize wr = wc at *
      go_wp2
      go_loopw [4] (fun i wr => ∃ (k : Nat), k ≤ m.funs.length ∧ i = .int .i64 k ∧ Hid (m.funs.all smallFn = (m.funs.drop k).all smallFn) ∧ Below (w.heap.size + 1) (w.alloc (.cells #[.string m.name, .slice a m.datas.length cap, .slice a' m.funs.length cap'] 56)) wr) (fun i _ => m.funs.length - (intOf i).toNat)
      case atStart => exact ⟨0, Nat.zero_le _, rfl, rfl, HB1.out⟩
      case round =>
        obtain ⟨k, hk, rfl, HP, hB⟩ := hrel
        clear c0 c1 c2 HB1
        have hbx := bget hB HBX.out (by omega)
        obtain ⟨c0, c1, c2⟩ := cells3 hbx
        have hbw : Below w.heap.size w wr := HB0.out.trans (hB.mono (by omega))
        have hsz : w.heap.size + 1 ≤ wr.heap.size := by have := hB.size; simp at this; omega
        by_cases hlt : k < m.funs.length
        · have hlt' : (k : Int) < (m.funs.length : Int) := by omega
          obtain ⟨b, o, rfl, hbn, hps⟩ := HFA.out (by omega)
          obtain ⟨cs, hcl, hcc, ht⟩ := hps k hlt
          obtain ⟨x0, x1, x2, x3, x4, x5, x6, x7, x8, x9, x10, x11, x12, x13, x14, rfl, g0, g1, g2, g3, g4, g5, g6, g7, g8, g9, g10, g11, g12, g13, g14⟩ := list15 hcl hcc
          obtain ⟨y0, y1, y2, y3, z0, z1, z2, z3, t0, t1, t2, t3, t4, hev, hsn, hsp, hdo, hco, hbo⟩ := ht
          simp only [Value.agg.injEq, Array.mk.injEq, List.cons.injEq, and_true] at hev
          obtain ⟨rfl, rfl, rfl, rfl, rfl, rfl, rfl, rfl, rfl, rfl, rfl, rfl, rfl, rfl, rfl⟩ := hev
          have q0 := (hbw.cell (p := ⟨b, _, none⟩) hbn).trans g0
          have q1 := (hbw.cell (p := ⟨b, _, none⟩) hbn).trans g1
          have q2 := (hbw.cell (p := ⟨b, _, none⟩) hbn).trans g2
          have q3 := (hbw.cell (p := ⟨b, _, none⟩) hbn).trans g3
          have q4 := (hbw.cell (p := ⟨b, _, none⟩) hbn).trans g4
          have q5 := (hbw.cell (p := ⟨b, _, none⟩) hbn).trans g5
          have q6 := (hbw.cell (p := ⟨b, _, none⟩) hbn).trans g6
          have q7 := (hbw.cell (p := ⟨b, _, none⟩) hbn).trans g7
          have q8 := (hbw.cell (p := ⟨b, _, none⟩) hbn).trans g8
          have q9 := (hbw.cell (p := ⟨b, _, none⟩) hbn).trans g9
          have q10 := (hbw.cell (p := ⟨b, _, none⟩) hbn).trans g10
          have q11 := (hbw.cell (p := ⟨b, _, none⟩) hbn).trans g11
          have q12 := (hbw.cell (p := ⟨b, _, none⟩) hbn).trans g12
          have q13 := (hbw.cell (p := ⟨b, _, none⟩) hbn).trans g13
          have q14 := (hbw.cell (p := ⟨b, _, none⟩) hbn).trans g14
          obtain ⟨i0, i1, i2, i3, i4, i5, rfl, rfl, rfl, rfl⟩ := hdo.shape
          obtain ⟨j0, j1, j2, j3, j4, j5, rfl, rfl, rfl, rfl⟩ := hco.shape
          obtain ⟨l0, l1, l2, l3, l4, l5, l6, l7, l8, rfl, rfl, rfl, rfl, rfl⟩ := hbo.shape
          have hd : (m.funs.drop k).all smallFn = (smallFn m.funs[k] && (m.funs.drop (k + 1)).all smallFn) := by rw [List.drop_eq_getElem_cons hlt, List.all_cons]
          have HB := Lib.hid hB; have HD := Lib.hid hd
          have HC0 := Lib.hid fun (V : World) (hb : Below w.heap.size w V) => SmallType_any m.funs[k].dom _ V (TyAt.keep hb hb.size _ _ hdo)
          have HC1 := Lib.hid fun (V : World) (hb : Below w.heap.size w V) => SmallType_any m.funs[k].cod _ V (TyAt.keep hb hb.size _ _ hco)
          have HC2 := Lib.hid fun (V : World) (hb : Below w.heap.size w V) => SmallTerm_any m.funs[k].body _ V (TmAt.keep hb hb.size _ _ hbo)
          clear hB hbx hbw hcc hcl hdo hco hbo hd hps g0 g1 g2 g3 g4 g5 g6 g7 g8 g9 g10 g11 g12 g13 g14
          unfold maxLen at hsn hsp
          go_upto_region 12 with fail
          have hx2 := heap_alloc_new wr (.cells #[.string m.funs[k].name, .string m.funs[k].param, .int .i64 i0, .int .i64 i1, .string i2, .slice i3 i4 i5, .int .i64 j0, .int .i64 j1, .string j2, .slice j3 j4 j5, .int .i64 l0, .int .i64 l1, .string l2, .slice l3 l4 l5, .slice l6 l7 l8] 114)
          have hbV := (Below.refl wr.heap.size wr).alloc (Nat.le_refl _) (.cells #[.string m.funs[k].name, .string m.funs[k].param, .int .i64 i0, .int .i64 i1, .string i2, .slice i3 i4 i5, .int .i64 j0, .int .i64 j1, .string j2, .slice j3 j4 j5, .int .i64 l0, .int .i64 l1, .string l2, .slice l3 l4 l5, .slice l6 l7 l8] 114)
          generalize (wr.alloc (.cells #[.string m.funs[k].name, .string m.funs[k].param, .int .i64 i0, .int .i64 i1, .string i2, .slice i3 i4 i5, .int .i64 j0, .int .i64 j1, .string j2, .slice j3 j4 j5, .int .i64 l0, .int .i64 l1, .string l2, .slice l3 l4 l5, .slice l6 l7 l8] 114)) = V at *
          have HX2 := Lib.hid hx2
          have HBV := Lib.hid (HB.out.trans (hbV.mono hsz))
          have hvs := (Array.getElem?_eq_some_iff.1 hx2).1
          clear c0 c1 c2 q0 q1 q2 q3 q4 q5 q6 q7 q8 q9 q10 q11 q12 q13 q14 hbV
          obtain ⟨u0, u1, u2, u3, u4, u5, u6, u7, u8, u9, u10, u11, u12, u13, u14⟩ := cells15 hx2
          clear hx2
          generalize hfn : m.funs[k] = fn at *
          by_cases hc : fn.name.size ≤ 30
          case neg =>
            have hc' : 30 < ((fn.name.size : Nat) : Int) := by omega
            have hs : smallFn fn = false := by unfold smallFn; simp [hc]
            have HEND := Lib.hid (show smallMd m = false by rw [HR3.out, HP.out, HD.out, hs, Bool.false_and])
            clear hs hc
            go_wp2
            go_ret
            exact ⟨ret_bool HEND.out.symm, HB0.out.trans (HBV.out.mono (by omega))⟩
          have hn30' : ((fn.name.size : Nat) : Int) ≤ 30 := by omega
          have hn30 := hc
          clear hc
          by_cases hc : fn.param.size ≤ 30
          case neg =>
            have hc' : 30 < ((fn.param.size : Nat) : Int) := by omega
            have hs : smallFn fn = false := by unfold smallFn; simp [hc]
            have HEND := Lib.hid (show smallMd m = false by rw [HR3.out, HP.out, HD.out, hs, Bool.false_and])
            clear hs hc
            go_wp2
            go_ret
            exact ⟨ret_bool HEND.out.symm, HB0.out.trans (HBV.out.mono (by omega))⟩
          have hp30' : ((fn.param.size : Nat) : Int) ≤ 30 := by omega
          have hp30 := hc
          clear hc
          go_wp2_with fail
          refine (HC0.out _ (HB0.out.trans (HBV.out.mono (by omega)))).mono ?_
          rintro e w1 ⟨rfl, hb1⟩
          have hx1 := bget' hb1 HX2.out
          have hbv1 := HBV.out.trans (hb1.mono (by have := HBV.out.size; simp at this; omega))
          clear HX2 HBV u0 u1 u2 u3 u4 u5 u6 u7 u8 u9 u10 u11 u12 u13 u14 hb1
          have HX2 := Lib.hid hx1; have HBV := Lib.hid hbv1
          obtain ⟨u0, u1, u2, u3, u4, u5, u6, u7, u8, u9, u10, u11, u12, u13, u14⟩ := cells15 hx1
          clear hx1 hbv1
          cases hc1 : SmallTypeB fn.dom with
          | false =>
            have hs : smallFn fn = false := by unfold smallFn; simp [hc1]
            have HEND := Lib.hid (show smallMd m = false by rw [HR3.out, HP.out, HD.out, hs, Bool.false_and])
            clear hs hc1
            go_wp2
            go_ret
            exact ⟨ret_bool HEND.out.symm, HB0.out.trans (HBV.out.mono (by omega))⟩
          | true =>
          go_wp2_with fail
          refine (HC1.out _ (HB0.out.trans (HBV.out.mono (by omega)))).mono ?_
          rintro e w2 ⟨rfl, hb2⟩
          have hx2 := bget' hb2 HX2.out
          have hbv2 := HBV.out.trans (hb2.mono (by have := HBV.out.size; simp at this; omega))
          clear HX2 HBV u0 u1 u2 u3 u4 u5 u6 u7 u8 u9 u10 u11 u12 u13 u14 hb2
          have HX2 := Lib.hid hx2; have HBV := Lib.hid hbv2
          obtain ⟨u0, u1, u2, u3, u4, u5, u6, u7, u8, u9, u10, u11, u12, u13, u14⟩ := cells15 hx2
          clear hx2 hbv2
          cases hc2 : SmallTypeB fn.cod with
          | false =>
            have hs : smallFn fn = false := by unfold smallFn; simp [hc2]
            have HEND := Lib.hid (show smallMd m = false by rw [HR3.out, HP.out, HD.out, hs, Bool.false_and])
            clear hs hc2
            go_wp2
            go_ret
            exact ⟨ret_bool HEND.out.symm, HB0.out.trans (HBV.out.mono (by omega))⟩
          | true =>
          go_wp2_with fail
          refine (HC2.out _ (HB0.out.trans (HBV.out.mono (by omega)))).mono ?_
          rintro e w3 ⟨rfl, hb3⟩
          have hx3 := bget' hb3 HX2.out
          have hbv3 := HBV.out.trans (hb3.mono (by have := HBV.out.size; simp at this; omega))
          clear HX2 HBV u0 u1 u2 u3 u4 u5 u6 u7 u8 u9 u10 u11 u12 u13 u14 hb3
          have HX2 := Lib.hid hx3; have HBV := Lib.hid hbv3
          obtain ⟨u0, u1, u2, u3, u4, u5, u6, u7, u8, u9, u10, u11, u12, u13, u14⟩ := cells15 hx3
          clear hx3 hbv3
          cases hc3 : SmallTermB fn.body with
          | false =>
            have hs : smallFn fn = false := by unfold smallFn; simp [hc3]
            have HEND := Lib.hid (show smallMd m = false by rw [HR3.out, HP.out, HD.out, hs, Bool.false_and])
            clear hs hc3
            go_wp2
            go_ret
            exact ⟨ret_bool HEND.out.symm, HB0.out.trans (HBV.out.mono (by omega))⟩
          | true =>
          have HS2 := Lib.hid (show m.funs.all smallFn = (m.funs.drop (k + 1)).all smallFn by rw [HP.out, HD.out, show smallFn fn = true by unfold smallFn; rw [decide_eq_true hn30, decide_eq_true hp30, hc1, hc2, hc3]; rfl, Bool.true_and])
          go_wp2
          go_roundw
          case rel => exact ⟨k + 1, by omega, by go_num, HS2.out, HBV.out⟩
          case measure => simp [intOf]; omega
        · have hlt' : ¬ ((k : Int) < (m.funs.length : Int)) := by omega
          have HEND := Lib.hid (show smallMd m = true by rw [HR3.out, HP.out, List.drop_eq_nil_of_le (by omega)]; rfl)
          have HBW := Lib.hid hbw
          clear hB hbw hbx
          go_wp2
          go_ret
          exact ⟨ret_bool HEND.out.symm, HBW.out⟩

end Go.Proofs.YtjpahjfjpkbcnaaGreat

/- Which modules are formed, by the specification. -/
namespace Go.Proofs.YtjpahjfjpkbcnaaGreat
open Go.Proofs Go.RowKit

def refFn (f : Fn) : Bool := nameB f.name && nameB f.param && refTypeB false f.dom && refTypeB false f.cod && refTermB f.body
def refMd (m : Md) : Bool := nameB m.name && decide (m.datas.length ≤ 4) && inB m.funs.length 1 5 && m.datas.all refDt && m.funs.all refFn

set_option maxHeartbeats 8000000 in
set_option maxRecDepth 100000 in
theorem refModule_any (m : Md) (v : Value) (w : World) (hv : MdAt w.heap.size w m v) (hok : ∀ f ∈ m.funs, okM f.body) :
    Calls Tryz.prog 36 #[v] w fun e w' => e = .returned (.bool (refMd m)) ∧ Below w.heap.size w w' := by
  obtain ⟨dv, fv, rfl, htx, hk, hf⟩ := hv
  obtain ⟨a, cap, rfl, hcap, hlc, hka⟩ := hk.split
  obtain ⟨a', cap', rfl, hcap', hlc', hfa⟩ := hf.split
  have hbx := heap_alloc_new w (.cells #[.string m.name, .slice a m.datas.length cap, .slice a' m.funs.length cap'] 56)
  have hb0 := (Below.refl w.heap.size w).alloc (Nat.le_refl _) (.cells #[.string m.name, .slice a m.datas.length cap, .slice a' m.funs.length cap'] 56)
  unfold maxLen at hcap hcap' htx
  have hr : refMd m = (nameB m.name && decide (m.datas.length ≤ 4) && inB m.funs.length 1 5 && m.datas.all refDt && m.funs.all refFn) := rfl
  have HR := Lib.hid hr
  have HKA := Lib.hid hka; have HFA := Lib.hid hfa; have HBX := Lib.hid hbx; have HB0 := Lib.hid hb0
  have hszA : (w.alloc (.cells #[.string m.name, .slice a m.datas.length cap, .slice a' m.funs.length cap'] 56)).heap.size = w.heap.size + 1 := by simp
  clear hk hka hf hfa hr hb0
  obtain ⟨c0, c1, c2⟩ := cells3 hbx
  have HC1 := Lib.hid (refName_any m.name (w.alloc (.cells #[.string m.name, .slice a m.datas.length cap, .slice a' m.funs.length cap'] 56)) (show m.name.size ≤ maxLen by unfold maxLen; omega))
  cases h30 : nameB m.name with
  | false =>
    have HEND := Lib.hid (show refMd m = false by rw [HR.out, h30]; rfl)
    have H30 := Lib.hid h30
    clear h30
    go_enter Tryz.func36, Tryz.ntmps36
    go_wp2_with fail
    refine HC1.out.mono ?_
    rintro e w1 ⟨rfl, hb1⟩
    rw [H30.out]
    go_wp2
    go_ret
    exact ⟨ret_bool HEND.out.symm, HB0.out.trans (hb1.mono HB0.out.size)⟩
  | true =>
  have H30 := Lib.hid h30
  clear h30
  by_cases h6 : m.datas.length ≤ 4
  case neg =>
    have h6' : 4 < (m.datas.length : Int) := by omega
    have HEND := Lib.hid (show refMd m = false by rw [HR.out, decide_eq_false h6, Bool.and_false]; rfl)
    go_enter Tryz.func36, Tryz.ntmps36
    go_wp2_with fail
    refine HC1.out.mono ?_
    rintro e w1 ⟨rfl, hb1⟩
    rw [H30.out]
    have hbx1 := bget' hb1 hbx
    clear c0 c1 c2
    obtain ⟨c0, c1, c2⟩ := cells3 hbx1
    go_wp2
    go_ret
    exact ⟨ret_bool HEND.out.symm, HB0.out.trans (hb1.mono HB0.out.size)⟩
  have h6' : (m.datas.length : Int) ≤ 4 := by omega
  cases h8 : inB m.funs.length 1 5 with
  | false =>
    have HEND := Lib.hid (show refMd m = false by rw [HR.out, h8, Bool.and_false]; rfl)
    have H8 := Lib.hid h8
    clear h8
    go_enter Tryz.func36, Tryz.ntmps36
    go_wp2_with fail
    refine HC1.out.mono ?_
    rintro e w1 ⟨rfl, hb1⟩
    rw [H30.out]
    have hbx1 := bget' hb1 hbx
    clear c0 c1 c2
    obtain ⟨c0, c1, c2⟩ := cells3 hbx1
    go_wp2_with fail
    refine (in_any' _ _ _ _).mono ?_
    rintro e w2 ⟨rfl, hb2⟩
    rw [H8.out]
    go_wp2
    go_ret
    exact ⟨ret_bool HEND.out.symm, (HB0.out.trans (hb1.mono HB0.out.size)).trans (hb2.mono (HB0.out.trans (hb1.mono HB0.out.size)).size)⟩
  | true =>
  have H8 := Lib.hid h8
  have HR2 := Lib.hid (show refMd m = (m.datas.all refDt && m.funs.all refFn) by rw [HR.out, H30.out, decide_eq_true h6, h8]; rfl)
  clear HR h8
  go_enter Tryz.func36, Tryz.ntmps36
  go_wp2_with fail
  refine HC1.out.mono ?_
  rintro e w1 ⟨rfl, hb1⟩
  rw [H30.out]
  have hbx1 := bget' hb1 hbx
  clear c0 c1 c2
  obtain ⟨c0, c1, c2⟩ := cells3 hbx1
  go_wp2_with fail
  refine (in_any' _ _ _ _).mono ?_
  rintro e w2 ⟨rfl, hb2⟩
  rw [H8.out]
  have hst : Below (w.heap.size + 1) (w.alloc (.cells #[.string m.name, .slice a m.datas.length cap, .slice a' m.funs.length cap'] 56)) w2 := by
    rw [hszA] at hb1
    exact hb1.trans (hb2.mono (by have := hb1.size; omega))
  have HST := Lib.hid hst
  clear hst hb1 hb2 hbx hbx1 c0 c1 c2
  go_wp2
  go_loopw [3] (fun i wr => ∃ (k : Nat), k ≤ m.datas.length ∧ i = .int .i64 k ∧ Hid (m.datas.all refDt = (m.datas.drop k).all refDt) ∧ Below (w.heap.size + 1) (w.alloc (.cells #[.string m.name, .slice a m.datas.length cap, .slice a' m.funs.length cap'] 56)) wr) (fun i _ => m.datas.length - (intOf i).toNat)
  case atStart => exact ⟨0, Nat.zero_le _, rfl, rfl, HST.out⟩
  case round =>
    obtain ⟨k, hk, rfl, HP, hB⟩ := hrel
    have hbx := bget hB HBX.out (by omega)
    obtain ⟨c0, c1, c2⟩ := cells3 hbx
    have hbw : Below w.heap.size w wr := HB0.out.trans (hB.mono (by omega))
    have hsz : w.heap.size + 1 ≤ wr.heap.size := by have := hB.size; simp at this; omega
    by_cases hlt : k < m.datas.length
    · have hlt' : (k : Int) < (m.datas.length : Int) := by omega
      obtain ⟨b, o, rfl, hbn, hps⟩ := HKA.out (by omega)
      obtain ⟨e0, e1, g0, g1, ht⟩ := hps k hlt
      have q0 := (hbw.cell (p := ⟨b, _, none⟩) hbn).trans g0
      have q1 := (hbw.cell (p := ⟨b, _, none⟩) hbn).trans g1
      have hcl := refData_any m.datas[k] _ wr (DtAt.keep hbw hbw.size ht)
      have hd : (m.datas.drop k).all refDt = (refDt m.datas[k] && (m.datas.drop (k + 1)).all refDt) := by rw [List.drop_eq_getElem_cons hlt, List.all_cons]
      cases hx : refDt m.datas[k] with
      | true =>
        rw [hx, Bool.true_and] at hd
        rw [hx] at hcl
        have HC := Lib.hid hcl; have HB := Lib.hid hB; have HD := Lib.hid hd
        clear hcl hB hbx hbw g0 g1 ht hps hd hx
        go_wp2_with fail
        refine HC.out.mono ?_
        rintro e w1 ⟨rfl, hb1⟩
        have HB1 := Lib.hid (HB.out.trans (hb1.mono hsz))
        clear hb1 HC c0 c1 c2 q0 q1
        go_wp2
        go_roundw
        case rel => exact ⟨k + 1, by omega, by go_num, by unfold Hid; rw [HP.out, HD.out], HB1.out⟩
        case measure => simp [intOf]; omega
      | false =>
        rw [hx, Bool.false_and] at hd
        rw [hx] at hcl
        have HEND := Lib.hid (show refMd m = false by rw [HR2.out, HP.out, hd, Bool.false_and])
        have HC := Lib.hid hcl; have HBW := Lib.hid hbw
        clear hcl hB hbx hbw g0 g1 ht hps hd hx
        go_wp2_with fail
        refine HC.out.mono ?_
        rintro e w1 ⟨rfl, hb1⟩
        have HB1 := Lib.hid (HBW.out.trans (hb1.mono HBW.out.size))
        clear hb1 HC c0 c1 c2 q0 q1
        go_wp2
        go_ret
        exact ⟨ret_bool HEND.out.symm, HB1.out⟩
    · have hlt' : ¬ ((k : Int) < (m.datas.length : Int)) := by omega
      have HR3 := Lib.hid (show refMd m = m.funs.all refFn by rw [HR2.out, HP.out, List.drop_eq_nil_of_le (by omega)]; show (true && _) = _; rw [Bool.true_and])
      have HB1 := Lib.hid hB
      clear hB hbw hbx hsz HP HR2
      generalize wr = wc at *
      go_wp2
      go_loopw [4] (fun i wr => ∃ (k : Nat), k ≤ m.funs.length ∧ i = .int .i64 k ∧ Hid (m.funs.all refFn = (m.funs.drop k).all refFn) ∧ Below (w.heap.size + 1) (w.alloc (.cells #[.string m.name, .slice a m.datas.length cap, .slice a' m.funs.length cap'] 56)) wr) (fun i _ => m.funs.length - (intOf i).toNat)
      case atStart => exact ⟨0, Nat.zero_le _, rfl, rfl, HB1.out⟩
      case round =>
        obtain ⟨k, hk, rfl, HP, hB⟩ := hrel
        clear c0 c1 c2 HB1
        have hbx := bget hB HBX.out (by omega)
        obtain ⟨c0, c1, c2⟩ := cells3 hbx
        have hbw : Below w.heap.size w wr := HB0.out.trans (hB.mono (by omega))
        have hsz : w.heap.size + 1 ≤ wr.heap.size := by have := hB.size; simp at this; omega
        by_cases hlt : k < m.funs.length
        · have hlt' : (k : Int) < (m.funs.length : Int) := by omega
          obtain ⟨b, o, rfl, hbn, hps⟩ := HFA.out (by omega)
          obtain ⟨cs, hcl, hcc, ht⟩ := hps k hlt
          obtain ⟨x0, x1, x2, x3, x4, x5, x6, x7, x8, x9, x10, x11, x12, x13, x14, rfl, g0, g1, g2, g3, g4, g5, g6, g7, g8, g9, g10, g11, g12, g13, g14⟩ := list15 hcl hcc
          obtain ⟨y0, y1, y2, y3, z0, z1, z2, z3, t0, t1, t2, t3, t4, hev, hsn, hsp, hdo, hco, hbo⟩ := ht
          simp only [Value.agg.injEq, Array.mk.injEq, List.cons.injEq, and_true] at hev
          obtain ⟨rfl, rfl, rfl, rfl, rfl, rfl, rfl, rfl, rfl, rfl, rfl, rfl, rfl, rfl, rfl⟩ := hev
          have q0 := (hbw.cell (p := ⟨b, _, none⟩) hbn).trans g0
          have q1 := (hbw.cell (p := ⟨b, _, none⟩) hbn).trans g1
          have q2 := (hbw.cell (p := ⟨b, _, none⟩) hbn).trans g2
          have q3 := (hbw.cell (p := ⟨b, _, none⟩) hbn).trans g3
          have q4 := (hbw.cell (p := ⟨b, _, none⟩) hbn).trans g4
          have q5 := (hbw.cell (p := ⟨b, _, none⟩) hbn).trans g5
          have q6 := (hbw.cell (p := ⟨b, _, none⟩) hbn).trans g6
          have q7 := (hbw.cell (p := ⟨b, _, none⟩) hbn).trans g7
          have q8 := (hbw.cell (p := ⟨b, _, none⟩) hbn).trans g8
          have q9 := (hbw.cell (p := ⟨b, _, none⟩) hbn).trans g9
          have q10 := (hbw.cell (p := ⟨b, _, none⟩) hbn).trans g10
          have q11 := (hbw.cell (p := ⟨b, _, none⟩) hbn).trans g11
          have q12 := (hbw.cell (p := ⟨b, _, none⟩) hbn).trans g12
          have q13 := (hbw.cell (p := ⟨b, _, none⟩) hbn).trans g13
          have q14 := (hbw.cell (p := ⟨b, _, none⟩) hbn).trans g14
          obtain ⟨i0, i1, i2, i3, i4, i5, rfl, rfl, rfl, rfl⟩ := hdo.shape
          obtain ⟨j0, j1, j2, j3, j4, j5, rfl, rfl, rfl, rfl⟩ := hco.shape
          obtain ⟨l0, l1, l2, l3, l4, l5, l6, l7, l8, rfl, rfl, rfl, rfl, rfl⟩ := hbo.shape
          have hd : (m.funs.drop k).all refFn = (refFn m.funs[k] && (m.funs.drop (k + 1)).all refFn) := by rw [List.drop_eq_getElem_cons hlt, List.all_cons]
          have HB := Lib.hid hB; have HD := Lib.hid hd
          have HC0 := Lib.hid fun (V : World) (hb : Below w.heap.size w V) => Whole_any m.funs[k].dom _ V (TyAt.keep hb hb.size _ _ hdo)
          have HC1 := Lib.hid fun (V : World) (hb : Below w.heap.size w V) => Whole_any m.funs[k].cod _ V (TyAt.keep hb hb.size _ _ hco)
          have HC2 := Lib.hid fun (V : World) (hb : Below w.heap.size w V) => Term_any m.funs[k].body _ V (TmAt.keep hb hb.size _ _ hbo) (hok _ (List.getElem_mem hlt))
          have HC3 := Lib.hid fun (V : World) (_ : Below w.heap.size w V) => refName_any m.funs[k].name V hsn
          have HC4 := Lib.hid fun (V : World) (_ : Below w.heap.size w V) => refName_any m.funs[k].param V hsp
          clear hB hbx hbw hcc hcl hdo hco hbo hd hps g0 g1 g2 g3 g4 g5 g6 g7 g8 g9 g10 g11 g12 g13 g14
          unfold maxLen at hsn hsp
          go_upto_region 12 with fail
          have hx2 := heap_alloc_new wr (.cells #[.string m.funs[k].name, .string m.funs[k].param, .int .i64 i0, .int .i64 i1, .string i2, .slice i3 i4 i5, .int .i64 j0, .int .i64 j1, .string j2, .slice j3 j4 j5, .int .i64 l0, .int .i64 l1, .string l2, .slice l3 l4 l5, .slice l6 l7 l8] 114)
          have hbV := (Below.refl wr.heap.size wr).alloc (Nat.le_refl _) (.cells #[.string m.funs[k].name, .string m.funs[k].param, .int .i64 i0, .int .i64 i1, .string i2, .slice i3 i4 i5, .int .i64 j0, .int .i64 j1, .string j2, .slice j3 j4 j5, .int .i64 l0, .int .i64 l1, .string l2, .slice l3 l4 l5, .slice l6 l7 l8] 114)
          generalize (wr.alloc (.cells #[.string m.funs[k].name, .string m.funs[k].param, .int .i64 i0, .int .i64 i1, .string i2, .slice i3 i4 i5, .int .i64 j0, .int .i64 j1, .string j2, .slice j3 j4 j5, .int .i64 l0, .int .i64 l1, .string l2, .slice l3 l4 l5, .slice l6 l7 l8] 114)) = V at *
          have HX2 := Lib.hid hx2
          have HBV := Lib.hid (HB.out.trans (hbV.mono hsz))
          have hvs := (Array.getElem?_eq_some_iff.1 hx2).1
          clear c0 c1 c2 q0 q1 q2 q3 q4 q5 q6 q7 q8 q9 q10 q11 q12 q13 q14 hbV
          obtain ⟨u0, u1, u2, u3, u4, u5, u6, u7, u8, u9, u10, u11, u12, u13, u14⟩ := cells15 hx2
          clear hx2
          generalize hfn : m.funs[k] = fn at *
          go_wp2_with fail
          refine (HC3.out _ (HB0.out.trans (HBV.out.mono (by omega)))).mono ?_
          rintro e w8 ⟨rfl, hb8⟩
          have hx8 := bget' hb8 HX2.out
          have hbv8 := HBV.out.trans (hb8.mono (by have := HBV.out.size; simp at this; omega))
          clear HX2 HBV u0 u1 u2 u3 u4 u5 u6 u7 u8 u9 u10 u11 u12 u13 u14 hb8
          have HX2 := Lib.hid hx8; have HBV := Lib.hid hbv8
          obtain ⟨u0, u1, u2, u3, u4, u5, u6, u7, u8, u9, u10, u11, u12, u13, u14⟩ := cells15 hx8
          clear hx8 hbv8
          cases hc8 : nameB fn.name with
          | false =>
            have hs : refFn fn = false := by unfold refFn; simp [hc8]
            have HEND := Lib.hid (show refMd m = false by rw [HR3.out, HP.out, HD.out, hs, Bool.false_and])
            clear hs hc8
            go_wp2
            go_ret
            exact ⟨ret_bool HEND.out.symm, HB0.out.trans (HBV.out.mono (by omega))⟩
          | true =>
          go_wp2_with fail
          refine (HC4.out _ (HB0.out.trans (HBV.out.mono (by omega)))).mono ?_
          rintro e w9 ⟨rfl, hb9⟩
          have hx9 := bget' hb9 HX2.out
          have hbv9 := HBV.out.trans (hb9.mono (by have := HBV.out.size; simp at this; omega))
          clear HX2 HBV u0 u1 u2 u3 u4 u5 u6 u7 u8 u9 u10 u11 u12 u13 u14 hb9
          have HX2 := Lib.hid hx9; have HBV := Lib.hid hbv9
          obtain ⟨u0, u1, u2, u3, u4, u5, u6, u7, u8, u9, u10, u11, u12, u13, u14⟩ := cells15 hx9
          clear hx9 hbv9
          cases hc9 : nameB fn.param with
          | false =>
            have hs : refFn fn = false := by unfold refFn; simp [hc9]
            have HEND := Lib.hid (show refMd m = false by rw [HR3.out, HP.out, HD.out, hs, Bool.false_and])
            clear hs hc9
            go_wp2
            go_ret
            exact ⟨ret_bool HEND.out.symm, HB0.out.trans (HBV.out.mono (by omega))⟩
          | true =>
          go_wp2_with fail
          refine (HC0.out _ (HB0.out.trans (HBV.out.mono (by omega)))).mono ?_
          rintro e w1 ⟨rfl, hb1⟩
          have hx1 := bget' hb1 HX2.out
          have hbv1 := HBV.out.trans (hb1.mono (by have := HBV.out.size; simp at this; omega))
          clear HX2 HBV u0 u1 u2 u3 u4 u5 u6 u7 u8 u9 u10 u11 u12 u13 u14 hb1
          have HX2 := Lib.hid hx1; have HBV := Lib.hid hbv1
          obtain ⟨u0, u1, u2, u3, u4, u5, u6, u7, u8, u9, u10, u11, u12, u13, u14⟩ := cells15 hx1
          clear hx1 hbv1
          cases hc1 : refTypeB false fn.dom with
          | false =>
            have hs : refFn fn = false := by unfold refFn; simp [hc1]
            have HEND := Lib.hid (show refMd m = false by rw [HR3.out, HP.out, HD.out, hs, Bool.false_and])
            clear hs hc1
            go_wp2
            go_ret
            exact ⟨ret_bool HEND.out.symm, HB0.out.trans (HBV.out.mono (by omega))⟩
          | true =>
          go_wp2_with fail
          refine (HC1.out _ (HB0.out.trans (HBV.out.mono (by omega)))).mono ?_
          rintro e w2 ⟨rfl, hb2⟩
          have hx2 := bget' hb2 HX2.out
          have hbv2 := HBV.out.trans (hb2.mono (by have := HBV.out.size; simp at this; omega))
          clear HX2 HBV u0 u1 u2 u3 u4 u5 u6 u7 u8 u9 u10 u11 u12 u13 u14 hb2
          have HX2 := Lib.hid hx2; have HBV := Lib.hid hbv2
          obtain ⟨u0, u1, u2, u3, u4, u5, u6, u7, u8, u9, u10, u11, u12, u13, u14⟩ := cells15 hx2
          clear hx2 hbv2
          cases hc2 : refTypeB false fn.cod with
          | false =>
            have hs : refFn fn = false := by unfold refFn; simp [hc2]
            have HEND := Lib.hid (show refMd m = false by rw [HR3.out, HP.out, HD.out, hs, Bool.false_and])
            clear hs hc2
            go_wp2
            go_ret
            exact ⟨ret_bool HEND.out.symm, HB0.out.trans (HBV.out.mono (by omega))⟩
          | true =>
          go_wp2_with fail
          refine (HC2.out _ (HB0.out.trans (HBV.out.mono (by omega)))).mono ?_
          rintro e w3 ⟨rfl, hb3⟩
          have hx3 := bget' hb3 HX2.out
          have hbv3 := HBV.out.trans (hb3.mono (by have := HBV.out.size; simp at this; omega))
          clear HX2 HBV u0 u1 u2 u3 u4 u5 u6 u7 u8 u9 u10 u11 u12 u13 u14 hb3
          have HX2 := Lib.hid hx3; have HBV := Lib.hid hbv3
          obtain ⟨u0, u1, u2, u3, u4, u5, u6, u7, u8, u9, u10, u11, u12, u13, u14⟩ := cells15 hx3
          clear hx3 hbv3
          cases hc3 : refTermB fn.body with
          | false =>
            have hs : refFn fn = false := by unfold refFn; simp [hc3]
            have HEND := Lib.hid (show refMd m = false by rw [HR3.out, HP.out, HD.out, hs, Bool.false_and])
            clear hs hc3
            go_wp2
            go_ret
            exact ⟨ret_bool HEND.out.symm, HB0.out.trans (HBV.out.mono (by omega))⟩
          | true =>
          have HS2 := Lib.hid (show m.funs.all refFn = (m.funs.drop (k + 1)).all refFn by rw [HP.out, HD.out, show refFn fn = true by unfold refFn; rw [hc8, hc9, hc1, hc2, hc3]; rfl, Bool.true_and])
          go_wp2
          go_roundw
          case rel => exact ⟨k + 1, by omega, by go_num, HS2.out, HBV.out⟩
          case measure => simp [intOf]; omega
        · have hlt' : ¬ ((k : Int) < (m.funs.length : Int)) := by omega
          have HEND := Lib.hid (show refMd m = true by rw [HR3.out, HP.out, List.drop_eq_nil_of_le (by omega)]; rfl)
          have HBW := Lib.hid hbw
          clear hB hbw hbx
          go_wp2
          go_ret
          exact ⟨ret_bool HEND.out.symm, HBW.out⟩

end Go.Proofs.YtjpahjfjpkbcnaaGreat

/- Whether a type is formed and has no holes. -/
namespace Go.Proofs.YtjpahjfjpkbcnaaGreat
open Go.Proofs Go.RowKit
attribute [local go_sem] Oper.semAt_some

def noHole (xs : List (Int × Ty)) : Bool := xs.all fun x => !(x.2.sort == 9)
def wholeB (T : Ty) : Bool := typeB T && noHole (partsY 1 T)

set_option maxHeartbeats 2000000 in
theorem whole_no (p : Ty) (v : Value) (w : World) (hp : TyAt w.heap.size w p v) (hh : heightY p ≤ 1000) (hb : typeB p = false) :
    Calls Tryz.prog 129 #[v] w fun e w' => e = .returned (.bool false) ∧ Below w.heap.size w w' := by
  obtain ⟨a, cap, rfl, htx⟩ := hp.parts
  have hb1 : Below w.heap.size w ((w.alloc (.cells #[.int .i64 p.sort, .int .i64 p.n, .string p.text, .slice a p.parts.length cap] 39)).alloc (.cells #[.bool false] 4)) := ((Below.refl w.heap.size w).alloc (Nat.le_refl _) _).alloc (by simp) _
  have hc := CheckType_any p _ _ (TyAt.keep hb1 hb1.size _ _ hp) hh
  have hx1 := bget' ((Below.refl _ _).alloc (Nat.le_refl _) (.cells #[.bool false] 4)) (heap_alloc_new w (.cells #[.int .i64 p.sort, .int .i64 p.n, .string p.text, .slice a p.parts.length cap] 39))
  have hx2 := heap_alloc_new (w.alloc (.cells #[.int .i64 p.sort, .int .i64 p.n, .string p.text, .slice a p.parts.length cap] 39)) (.cells #[.bool false] 4)
  rw [World.size_alloc] at hx2
  rw [hb] at hc
  have HC := Lib.hid hc; clear hc hb hp
  obtain ⟨y0, y1, y2, y3⟩ := cells4 hx1
  go_enter Tryz.func129, Tryz.ntmps129
  go_wp2_with fail
  refine HC.out.mono ?_
  rintro e w1 ⟨rfl, hbb⟩
  have h2 : errOf false = 2 := rfl
  rw [h2]
  have n0 := cell_of_one (bget' hbb hx2)
  have n1 := free_of_one (bget' hbb hx2)
  have hlt := (Array.getElem?_eq_some_iff.1 (bget' hbb hx2)).1
  have HB := Lib.hid (hb1.trans (hbb.mono hb1.size))
  clear hbb
  go_wp2
  have hk : Kept (fun k => k = w.heap.size + 1) w1 (w1.setCell ⟨w.heap.size + 1, 0, none⟩ (.bool false)) := .setCell (S := fun k => k = w.heap.size + 1) _ rfl _
  refine bodyPost_ret (v := .bool false) (by simp [results, Tryz.results129, go_sem, n0]) rfl ⟨rfl, HB.out.trans (hk.below (by omega) (by rintro k rfl; omega))⟩

set_option maxHeartbeats 4000000 in
set_option maxRecDepth 100000 in
theorem whole_yes (p : Ty) (v : Value) (w : World) (hp : TyAt w.heap.size w p v) (hh : heightY p ≤ 1000) (hb : typeB p = true) :
    CallsIn Fence.wide 0 Tryz.prog 129 #[v] w fun e w' => e = .returned (.bool (noHole (partsY 1 p))) ∧ Below w.heap.size w w' := by
  obtain ⟨a, cap, rfl, htx⟩ := hp.parts
  have hb1 : Below w.heap.size w ((w.alloc (.cells #[.int .i64 p.sort, .int .i64 p.n, .string p.text, .slice a p.parts.length cap] 39)).alloc (.cells #[.bool false] 4)) := ((Below.refl w.heap.size w).alloc (Nat.le_refl _) _).alloc (by simp) _
  have hx1 := bget' ((Below.refl _ _).alloc (Nat.le_refl _) (.cells #[.bool false] 4)) (heap_alloc_new w (.cells #[.int .i64 p.sort, .int .i64 p.n, .string p.text, .slice a p.parts.length cap] 39))
  have hx2 := heap_alloc_new (w.alloc (.cells #[.int .i64 p.sort, .int .i64 p.n, .string p.text, .slice a p.parts.length cap] 39)) (.cells #[.bool false] 4)
  rw [World.size_alloc] at hx2
  refine calls_of_wpF Tryz.func129 rfl ?_
  simp only [Tryz.ntmps129, List.size_toArray, List.length_cons, List.length_nil, Nat.reduceAdd, Nat.reduceSub, Array.replicate_succ, Array.replicate_zero, List.push_toArray, List.append_toArray, List.nil_append, List.cons_append]
  refine wpF_seq ?_
  intro K hK
  refine wpF_of (n := 0) ?_
  gi_wp2
  generalize ((w.alloc (.cells #[.int .i64 p.sort, .int .i64 p.n, .string p.text, .slice a p.parts.length cap] 39)).alloc (.cells #[.bool false] 4)) = W0 at *
  have hc := CheckType_any p _ W0 (TyAt.keep hb1 hb1.size _ _ hp) hh
  rw [hb] at hc
  obtain ⟨y0, y1, y2, y3⟩ := cells4 hx1
  have HX1 := Lib.hid hx1; have HX2 := Lib.hid hx2; have HB1 := Lib.hid hb1; have HC := Lib.hid hc; have HP := Lib.hid hp
  clear hx1 hx2 hb1 hc hb hp
  refine wpF_seq ?_
  intro K1 hK1
  refine wpF_of (n := 0) ?_
  gi_wp2_with fail
  refine ⟨trivial, rfl, (callsIn_wide.2 HC.out).mono ?_⟩
  rintro e W ⟨rfl, hbb⟩
  have h2 : errOf true = 0 := rfl
  rw [h2]
  have hx1 := bget' hbb HX1.out
  have hx2 := bget' hbb HX2.out
  have hbW := HB1.out.trans (hbb.mono HB1.out.size)
  clear y0 y1 y2 y3 HX1 HX2 HB1 HC hbb h2
  obtain ⟨y0, y1, y2, y3⟩ := cells4 hx1
  gi_wp2
  refine wpF_seq ?_
  intro K2 hK2
  refine wpF_seq ?_
  intro K3 hK3
  refine wpF_of (n := 0) ?_
  gi_wp2_with fail
  refine ⟨trivial, rfl, (callsIn_wide.2 (partsY_any W p.sort p.n p.text (.slice a p.parts.length cap))).mono ?_⟩
  rintro e W2 ⟨rfl, hW2⟩
  have hs2 : W2.heap.size = W.heap.size + 2 := by rw [hW2]; simp
  have hbWW : Below W.heap.size W W2 := by rw [hW2]; exact ((Below.refl _ W).alloc (Nat.le_refl _) _).alloc (by simp) _
  have hb2 : Below w.heap.size w W2 := hbW.trans (hbWW.mono hbW.size)
  have hT2 : W2.heap[W.heap.size]? = some (.cells #[.int .i64 p.sort, .int .i64 p.n, .string p.text, .slice a p.parts.length cap] 39 (0, 0)) := by
    rw [hW2, Below.heap_alloc _ _ _ (by simp)]; exact heap_alloc_new _ _
  have hK2' : W2.heap[W.heap.size + 1]? = some (.cells #[.func (.func 91) #[] #[]] 107 (0, 0)) := by
    rw [hW2]; have := heap_alloc_new (W.alloc (.cells #[.int .i64 p.sort, .int .i64 p.n, .string p.text, .slice a p.parts.length cap] 39)) (.cells #[.func (.func 91) #[] #[]] 107); simpa using this
  have hp2 : TyAt w.heap.size W2 p (.agg #[.int .i64 p.sort, .int .i64 p.n, .string p.text, .slice a p.parts.length cap]) := TyAt.keep hb2 (Nat.le_refl _) _ _ HP.out
  have hlW : w.heap.size + 1 < W.heap.size := (Array.getElem?_eq_some_iff.1 hx2).1
  have HSX := Lib.hid hx2
  clear hW2 hx1 hx2
  gi_wp2
  refine wpF_block ?_
  refine wpF_range (fn := Tryz.f129) rfl (gf := 126) rfl (enters_of Tryz.func126 (by kernel_rfl) rfl) (w0 := W2) (iterY hp2 (by have := hb2.size; omega) hT2 hK2' hh) (Below.refl _ _) (fun _ => rfl)
    (fun k => k = w.heap.size + 1) ?hS ?hD
    (fun pre V => ∃ post, segY W2 1 p (.agg #[.int .i64 p.sort, .int .i64 p.n, .string p.text, .slice a p.parts.length cap]) = pre ++ post ∧ Hid (noHole (partsY 1 p) = noHole (post.map fun x => (x.d, x.T))) ∧
      V.heap[w.heap.size + 1]? = some (.cells #[.bool false] 4 (0, 0)) ∧ Below w.heap.size W2 V ∧ Below w.heap.size w V ∧ W.heap.size + 2 ≤ V.heap.size)
    (fun c V => c = .ret ∧ Hid (noHole (partsY 1 p) = false) ∧ V.heap[w.heap.size + 1]? = some (.cells #[.bool false] 4 (0, 0)) ∧ Below w.heap.size w V ∧ W.heap.size + 2 ≤ V.heap.size) (fun _ _ => False) ?hI ?hIx ?h0 ?hround ?hdone ?hstop ?hpanic
  case hS => rintro k rfl; omega
  case hD => rintro k (h | rfl | rfl) <;> omega
  case hI =>
    rintro pre V1 V2 ⟨post, h1, h2, h4, h7, h8, h9⟩ hV
    exact ⟨post, h1, h2, bget hV h4 (by omega), h7.trans (hV.mono (by omega)), h8.trans (hV.mono (by omega)), Nat.le_trans h9 hV.size⟩
  case hIx =>
    rintro c V1 V2 ⟨h0, h1, h2, h3, h4⟩ hV
    exact ⟨h0, h1, bget hV h2 (by omega), h3.trans (hV.mono (by omega)), Nat.le_trans h4 hV.size⟩
  case h0 =>
    refine ⟨_, (List.nil_append _).symm, ?_, bget hbWW HSX.out (by omega), Below.refl _ _, hb2, by omega⟩
    unfold Hid
    rw [← segY_map W2 p 1 (.agg #[.int .i64 p.sort, .int .i64 p.n, .string p.text, .slice a p.parts.length cap])]
  case hpanic => intro _ _ _ _ h; exact h.elim
  case hstop =>
    rintro E c V hE ⟨rfl, h1, h2, h3, h4⟩ hV
    have n0 : (V.putObj E (.deferred none)).cell? ⟨w.heap.size + 1, 0, none⟩ = some (.bool false) := cell_of_one ((World.putObj_heap_other (by omega)).trans h2)
    have HV := Lib.hid hV; have H1 := Lib.hid h1; have H3 := Lib.hid h3
    clear hV h1 h3 h2
    gi_wp2
    refine leavesM_mark (by simp) HV.out ?_
    exact ⟨.bool false, by simp [results, Tryz.results129, go_sem, n0], by rw [H1.out], H3.out.trans (below_putObj _ (by omega) _)⟩
  case hdone =>
    rintro E V hE ⟨post, h1, h2, h4, h7, h8, h9⟩ hV
    have hpn : post = [] := by have := congrArg List.length h1; simp at this; exact this
    subst hpn
    have m0 := cell_of_one h4
    have m1 := free_of_one h4
    have e4 : (V.setCell ⟨w.heap.size + 1, 0, none⟩ (.bool true)).heap[w.heap.size + 1]? = _ := one_setCell h4
    have hk : Kept (fun k => k = w.heap.size + 1) V (V.setCell ⟨w.heap.size + 1, 0, none⟩ (.bool true)) := .setCell (S := fun k => k = w.heap.size + 1) _ rfl _
    have hVE := hk.get hV (by omega)
    have hfin := h8.trans (hk.below (n₀ := w.heap.size) (by omega) (by rintro k rfl; omega))
    have hend : noHole (partsY 1 p) = true := by rw [h2.out]; rfl
    have HVE := Lib.hid hVE; have HFIN := Lib.hid hfin; have HEND := Lib.hid hend; have HE4 := Lib.hid e4
    clear hV h8 h7 h2 h1 h4 e4 hk hVE hfin hend
    refine hK2 _ _ (wpF_of (n := 0) ?_)
    gi_wp2
    have n0 : ((V.setCell ⟨w.heap.size + 1, 0, none⟩ (.bool true)).putObj E (.deferred none)).cell? ⟨w.heap.size + 1, 0, none⟩ = some (.bool true) := cell_of_one ((World.putObj_heap_other (by omega)).trans HE4.out)
    refine leavesM_mark (by simp) HVE.out ?_
    exact ⟨.bool true, by simp [results, Tryz.results129, go_sem, n0], by rw [HEND.out], HFIN.out.trans (below_putObj _ (by omega) _)⟩
  case hround =>
    rintro l pre x post V hl hlV hx ⟨post', h1, h2, h4, h7, h8, h9⟩
    obtain rfl : post' = x :: post := List.append_cancel_left (h1.symm.trans hx)
    have hxa := segY_at p _ 1 hp2 x (by rw [h1]; simp)
    obtain ⟨xd, xT, xv⟩ := x
    simp only at hxa
    obtain ⟨xa, xc, rfl, hxt⟩ := hxa.parts
    have HH1 := Lib.hid h1; have H4 := Lib.hid h4; have H7 := Lib.hid h7; have H8 := Lib.hid h8
    have hst : noHole (partsY 1 p) = (!(xT.sort == 9) && noHole (post.map fun x => (x.d, x.T))) := h2.out
    have HST := Lib.hid hst
    clear h1 hx h4 h7 h8 hst h2
    dsimp only [encY]
    simp only [List.zip_toArray, List.zip_cons_cons, List.zip_nil_right, List.foldl_toArray', List.foldl_cons, List.foldl_nil, List.setIfInBounds_toArray, List.set_cons_succ, List.set_cons_zero]
    gi_wp2
    refine ⟨(Below.refl _ _).alloc (Nat.le_refl _) _, fun V2 hk2 => ?_⟩
    have hbox := hk2.get (heap_alloc_new V (.cells #[.int .i64 xT.sort, .int .i64 xT.n, .string xT.text, .slice xa xT.parts.length xc] 39)) (by omega)
    have hN2 := hk2.get (bget' ((Below.refl V.heap.size V).alloc (Nat.le_refl _) (.cells #[.int .i64 xT.sort, .int .i64 xT.n, .string xT.text, .slice xa xT.parts.length xc] 39)) H4.out) (by omega)
    have hB2 : Below w.heap.size V V2 := ((Below.refl w.heap.size V).alloc (by omega) _).trans (hk2.below (by simp; omega) (by rintro k rfl; omega))
    have hVle := hB2.size
    have n0 := cell_of_one hN2
    have n1 := free_of_one hN2
    obtain ⟨b0, b1, b2, b3⟩ := cells4 hbox
    have HB2 := Lib.hid hB2
    have hsz2 := hk2.size
    simp at hsz2
    have HN2 := Lib.hid hN2
    clear hbox hB2 hk2 hN2
    by_cases h9 : xT.sort = 9
    · have HF := Lib.hid (show noHole (partsY 1 p) = false by rw [HST.out, h9]; rfl)
      gi_wp2
      have hk : Kept (fun k => k = w.heap.size + 1) V2 (V2.setCell ⟨w.heap.size + 1, 0, none⟩ (.bool false)) := .setCell (S := fun k => k = w.heap.size + 1) _ rfl _
      exact ⟨hk, rfl, HF, one_setCell HN2.out, (H8.out.trans HB2.out).trans (hk.below (n₀ := w.heap.size) (by omega) (by rintro k rfl; omega)), by have := hk.size; omega⟩
    · have h9' : (xT.sort == 9) = false := by simpa using h9
      have HF := Lib.hid (show noHole (partsY 1 p) = noHole (post.map fun x => (x.d, x.T)) by rw [HST.out, h9']; rfl)
      gi_wp2
      exact ⟨.refl _ _, post, by rw [HH1.out]; simp, HF, HN2.out, H7.out.trans HB2.out, H8.out.trans HB2.out, by omega⟩

theorem whole_any (p : Ty) (v : Value) (w : World) (hp : TyAt w.heap.size w p v) (hh : heightY p ≤ 1000) :
    Calls Tryz.prog 129 #[v] w fun e w' => e = .returned (.bool (wholeB p)) ∧ Below w.heap.size w w' := by
  cases hb : typeB p with
  | false =>
    have e : wholeB p = false := by unfold wholeB; rw [hb, Bool.false_and]
    rw [e]
    exact whole_no p v w hp hh hb
  | true =>
    have e : wholeB p = noHole (partsY 1 p) := by unfold wholeB; rw [hb, Bool.true_and]
    rw [e]
    exact callsIn_wide.1 (whole_yes p v w hp hh hb)

end Go.Proofs.YtjpahjfjpkbcnaaGreat

/- Whether types are formed and have no holes, by the program and by the specification. -/
namespace Go.Proofs.YtjpahjfjpkbcnaaGreat
open Go.Proofs Go.RowKit

mutual
theorem sortsB_false : ∀ (p : Ty) (d : Int), sortsB false p = (((partsY d p).map (·.2)).all Ty.fits && noHole (partsY d p))
  | .mk f n t ps, d => by
    unfold sortsB partsY
    rw [List.map_cons, List.all_cons, sortssB_false ps (d + 1)]
    show (((false || !(f == 9)) && typeFitB f n t ps.length) && _) = (typeFitB f n t ps.length && _ && (!(f == 9) && noHole (partssY (d + 1) ps)))
    cases typeFitB f n t ps.length <;> cases (f == 9) <;> cases ((partssY (d + 1) ps).map (·.2)).all Ty.fits <;> simp
theorem sortssB_false : ∀ (ps : List Ty) (d : Int), sortssB false ps = (((partssY d ps).map (·.2)).all Ty.fits && noHole (partssY d ps))
  | [], _ => by unfold sortssB partssY; rfl
  | p :: ps, d => by
    unfold sortssB partssY
    have e : noHole (partsY d p ++ partssY d ps) = (noHole (partsY d p) && noHole (partssY d ps)) := List.all_append
    rw [List.map_append, List.all_append, e, sortsB_false p d, sortssB_false ps d]
    cases ((partsY d p).map (·.2)).all Ty.fits <;> cases noHole (partsY d p) <;> cases ((partssY d ps).map (·.2)).all Ty.fits <;> simp
end
theorem wholeB_eq (p : Ty) : refTypeB false p = wholeB p := by
  unfold refTypeB wholeB typeB
  rw [goY_eq _ 0 (by omega), weighY_nonneg p 12 1, sortsB_false p 1, Bool.and_assoc]
  congr 1
  rw [Bool.eq_iff_iff]
  simp
  omega

set_option maxHeartbeats 2000000 in
theorem allTypes_any (ts : List Ty) (v : Value) (w : World) (hv : SlV w.heap.size v ts.length fun b o => TysAt w.heap.size w ts b o) (hh : ∀ t ∈ ts, heightY t ≤ 1000) (hl : ts.length ≤ 1000000) :
    Calls Tryz.prog 128 #[v, .func (.func 129) #[] #[]] w fun e w' => e = .returned (.bool (ts.all wholeB)) ∧ Below w.heap.size w w' := by
  obtain ⟨a, cap, rfl, hcap, hlc, hka⟩ := hv.split
  clear hv
  unfold maxLen at hcap
  have HKA := Lib.hid hka; clear hka
  go_enter Tryz.func128, Tryz.ntmps128
  go_wp2
  go_loopw [9] (fun i wr => ∃ k : Nat, k ≤ ts.length ∧ i = .int .i64 k ∧ Hid (ts.all wholeB = (ts.drop k).all wholeB) ∧ Below w.heap.size w wr) (fun i _ => ts.length - (intOf i).toNat)
  case atStart => exact ⟨0, Nat.zero_le _, rfl, rfl, Below.refl _ _⟩
  case round =>
    obtain ⟨k, hk, rfl, HP, hB⟩ := hrel
    by_cases hlt : k < ts.length
    · have hlt' : (k : Int) < (ts.length : Int) := by omega
      obtain ⟨b, o, rfl, hbn, hps⟩ := HKA.out (by omega)
      obtain ⟨e0, e1, e2, e3, g0, g1, g2, g3, ht⟩ := TysAt.get ts b o hps k hlt
      obtain ⟨oo, nn, tt, ka, kn, kc, rfl, rfl, rfl, rfl⟩ := ht.shape
      have q0 := (hB.cell (p := ⟨b, _, none⟩) hbn).trans g0
      have q1 := (hB.cell (p := ⟨b, _, none⟩) hbn).trans g1
      have q2 := (hB.cell (p := ⟨b, _, none⟩) hbn).trans g2
      have q3 := (hB.cell (p := ⟨b, _, none⟩) hbn).trans g3
      have hbx := heap_alloc_new wr (.cells #[.int .i64 oo, .int .i64 nn, .string tt, .slice ka kn kc] 39)
      have hB1 : Below w.heap.size w (wr.alloc (.cells #[.int .i64 oo, .int .i64 nn, .string tt, .slice ka kn kc] 39)) := hB.trans ((Below.refl _ wr).alloc hB.size _)
      have hcl := whole_any ts[k] _ _ (TyAt.keep hB1 hB1.size _ _ ht) (hh _ (List.getElem_mem hlt))
      have hd : (ts.drop k).all wholeB = (wholeB ts[k] && (ts.drop (k + 1)).all wholeB) := by rw [List.drop_eq_getElem_cons hlt, List.all_cons]
      have HC := Lib.hid hcl; have HB1 := Lib.hid hB1; have HD := Lib.hid hd; have HBX := Lib.hid hbx
      clear hcl hB hB1 g0 g1 g2 g3 ht hps hd hbx
      go_upto_region 4 with fail
      obtain ⟨c0, c1, c2, c3⟩ := cells4 HBX.out
      generalize (wr.alloc (.cells #[.int .i64 oo, .int .i64 nn, .string tt, .slice ka kn kc] 39)) = V at *
      clear q0 q1 q2 q3
      go_wp2_with fail
      refine HC.out.mono ?_
      rintro e w1 ⟨rfl, hb1⟩
      have HB2 := Lib.hid (HB1.out.trans (hb1.mono HB1.out.size))
      clear hb1 HC c0 c1 c2 c3
      cases hx : wholeB ts[k]
      · have HX := Lib.hid (show ts.all wholeB = false by rw [HP.out, HD.out, hx]; rfl)
        clear hx
        go_wp2
        go_ret
        exact ⟨ret_bool HX.out.symm, HB2.out⟩
      · have HX := Lib.hid (show ts.all wholeB = (ts.drop (k + 1)).all wholeB by rw [HP.out, HD.out, hx]; rfl)
        clear hx
        go_wp2
        go_roundw
        case rel => exact ⟨k + 1, by omega, by go_num, HX.out, HB2.out⟩
        case measure => simp [intOf]; omega
    · have hlt' : ¬ (k : Int) < (ts.length : Int) := by omega
      have HX := Lib.hid (show ts.all wholeB = true by rw [HP.out, List.drop_eq_nil_of_le (by omega)]; rfl)
      have HB := Lib.hid hB
      clear hB
      go_wp2
      go_ret
      exact ⟨ret_bool HX.out.symm, HB.out⟩

end Go.Proofs.YtjpahjfjpkbcnaaGreat

/- Asking of the pieces of a module: the type switch, and a constructor. -/
namespace Go.Proofs.YtjpahjfjpkbcnaaGreat
open Go.Proofs Go.RowKit

theorem as_yes {t : TypeId} {fs : Array Field} (hu : Tryz.prog.underlying t = some (.struct fs)) (v : Value) (w : World) : (Instr.typeAssert (.iface t v) 147 t true).run Tryz.prog w = .ok (.tuple #[v, .bool true]) w := by
  simp [Instr.typeAssert, run_underlying hu]
theorem as_no {t t' : TypeId} {fs : Array Field} {z : Value} (hu : Tryz.prog.underlying t' = some (.struct fs)) (h : (Tryz.prog.info? t').bind (·.zero) = some z) (hne : t ≠ t') (v : Value) (w : World) :
    (Instr.typeAssert (.iface t v) 147 t' true).run Tryz.prog w = .ok (.tuple #[z, .bool false]) w := by
  obtain ⟨i, hi, hz⟩ := Option.bind_eq_some_iff.1 h
  simp [Instr.typeAssert, run_underlying hu, zeroValue, typeInfo, hi, hz, hne]
theorem zero117 : (Tryz.prog.info? 117).bind (·.zero) = some (.agg #[.string ⟨#[]⟩, .slice none 0 0, .slice none 0 0]) := by kernel_rfl
theorem zero149 : (Tryz.prog.info? 149).bind (·.zero) = some (.agg #[.string ⟨#[]⟩, .slice none 0 0]) := by kernel_rfl
theorem zero151 : (Tryz.prog.info? 151).bind (·.zero) = some (.agg #[.string ⟨#[]⟩, .slice none 0 0]) := by kernel_rfl
attribute [local go_sem] Oper.semAt_some

set_option maxRecDepth 20000 in
theorem inner_of {t : TypeId} {f : FuncId} {fs : Array Field} (hu : Tryz.prog.underlying t = some (.struct fs)) (h : (Tryz.prog.info? t).bind (fun i => (i.methods.find? (·.name == "hearth/term.inner")).map fun m => (m.path.toList, m.path.isEmpty, m.func)) = some ([], true, some (f, false))) (v : Value) (w : World) :
    (Go.method 340 t v "hearth/term.inner").run Tryz.prog w = .ok (f, v) w := by
  obtain ⟨i, hi, h2⟩ := Option.bind_eq_some_iff.1 h
  obtain ⟨m, hm, h3⟩ := Option.map_eq_some_iff.1 h2
  simp only [Prod.mk.injEq] at h3
  obtain ⟨h4, -, h6⟩ := h3
  unfold Go.method
  simp [typeInfo, hi, hm, h4, h6, Go.follow, Go.receiverAt, run_underlying hu, Place.get]
theorem inner151 (v : Value) (w : World) : (Go.method 340 151 v "hearth/term.inner").run Tryz.prog w = .ok (210, v) w := inner_of Tryz.underlying151 (by kernel_rfl) v w

theorem conInner_any (c0 c1 : Value) (w : World) : Calls Tryz.prog 210 #[.agg #[c0, c1]] w fun e w' => e = .returned (.slice none 0 0) ∧ Below w.heap.size w w' := by
  go_enter Tryz.func210, Tryz.ntmps210
  go_wp2
  go_ret
  exact ⟨rfl, by first | exact Below.refl _ _ | exact (Below.refl _ _).alloc (Nat.le_refl _) _⟩
theorem funInner_any (cs : Array Value) (w : World) : Calls Tryz.prog 211 #[.agg cs] w fun e w' => e = .returned (.slice none 0 0) ∧ Below w.heap.size w w' := by
  go_enter Tryz.func211, Tryz.ntmps211
  go_wp2
  go_ret
  exact ⟨rfl, by first | exact Below.refl _ _ | exact (Below.refl _ _).alloc (Nat.le_refl _) _⟩

set_option maxHeartbeats 2000000 in
set_option maxRecDepth 100000 in
theorem askCon_any (c : Co) (v : Value) (w : World) (hv : CoAt w.heap.size w c v) (hh : ∀ t ∈ c.types, heightY t ≤ 1000) :
    Calls Tryz.prog 96 #[.iface 151 v] w fun e w' => AskEnd (refCo c) e ∧ Below w.heap.size w w' := by
  obtain ⟨kv, rfl, htx, hk⟩ := hv
  have hkk := hk
  obtain ⟨a, cap, rfl, hcap, hlc, -⟩ := hk.split
  have a1 : ∀ v w, (Instr.typeAssert (.iface 151 v) 147 117 true).run Tryz.prog w = _ := as_no Tryz.underlying117 zero117 (by decide)
  have a2 : ∀ v w, (Instr.typeAssert (.iface 151 v) 147 149 true).run Tryz.prog w = _ := as_no Tryz.underlying149 zero149 (by decide)
  have a3 : ∀ v w, (Instr.typeAssert (.iface 151 v) 147 151 true).run Tryz.prog w = _ := as_yes Tryz.underlying151
  have hbx := heap_alloc_new w (.cells #[.string c.name, .slice a c.types.length cap] 151)
  have hb0 := (Below.refl w.heap.size w).alloc (Nat.le_refl _) (.cells #[.string c.name, .slice a c.types.length cap] 151)
  have HBX := Lib.hid hbx; have HB0 := Lib.hid hb0; have HK := Lib.hid hkk
  obtain ⟨c0, c1⟩ := cells2 hbx
  unfold maxLen at hcap
  clear hk hkk hbx hb0
  cases hg : greatB c.name with
  | false =>
    have e0 : refCo c = false := by unfold refCo; rw [hg]; rfl
    rw [e0]
    go_enter Tryz.func96, Tryz.ntmps96
    go_wp2_with fail
    refine (Great_any _ _).mono ?_
    rintro e w1 ⟨rfl, hb1⟩
    rw [hg]
    have HB1 := Lib.hid (HB0.out.trans (hb1.mono HB0.out.size))
    clear hb1
    go_wp2_with fail
    refine (ask_no _).mono ?_
    rintro e w2 ⟨rfl, rfl⟩
    go_wp2
    exact ⟨rfl, .inr ⟨rfl, rfl⟩, HB1.out⟩
  | true =>
  by_cases h3 : c.types.length ≤ 3
  case neg =>
    have h3' : 3 < (c.types.length : Int) := by omega
    have e0 : refCo c = false := by unfold refCo; rw [decide_eq_false h3, Bool.and_false, Bool.false_and]
    rw [e0]
    go_enter Tryz.func96, Tryz.ntmps96
    go_wp2_with fail
    refine (Great_any _ _).mono ?_
    rintro e w1 ⟨rfl, hb1⟩
    rw [hg]
    have HB1 := Lib.hid (HB0.out.trans (hb1.mono HB0.out.size))
    clear c0 c1
    obtain ⟨c0, c1⟩ := cells2 (bget' hb1 HBX.out)
    clear hb1
    go_wp2_with fail
    refine (ask_no _).mono ?_
    rintro e w2 ⟨rfl, rfl⟩
    go_wp2
    exact ⟨rfl, .inr ⟨rfl, rfl⟩, HB1.out⟩
  have h3' : (c.types.length : Int) ≤ 3 := by omega
  have hall : c.types.all (refTypeB false) = c.types.all wholeB := by rw [show refTypeB false = wholeB from funext wholeB_eq]
  cases hal : c.types.all wholeB with
  | false =>
    have e0 : refCo c = false := by unfold refCo; rw [hall, hal, Bool.and_false]
    rw [e0]
    have HAL := Lib.hid hal
    clear hal hall
    go_enter Tryz.func96, Tryz.ntmps96
    go_wp2_with fail
    refine (Great_any _ _).mono ?_
    rintro e w1 ⟨rfl, hb1⟩
    rw [hg]
    have HB1 := Lib.hid (HB0.out.trans (hb1.mono HB0.out.size))
    clear c0 c1
    obtain ⟨c0, c1⟩ := cells2 (bget' hb1 HBX.out)
    clear hb1
    go_wp2_with fail
    refine (allTypes_any c.types _ w1 (HK.out.mono HB1.out.size fun b o hlt hr => TysAt.keep HB1.out HB1.out.size _ _ _ hlt hr) hh (by omega)).mono ?_
    rintro e w2 ⟨rfl, hb2⟩
    rw [HAL.out]
    have HB2 := Lib.hid (HB1.out.trans (hb2.mono HB1.out.size))
    clear hb2 c0 c1
    go_wp2_with fail
    refine (ask_no _).mono ?_
    rintro e w3 ⟨rfl, rfl⟩
    go_wp2
    exact ⟨rfl, .inr ⟨rfl, rfl⟩, HB2.out⟩
  | true =>
    have e0 : refCo c = true := by unfold refCo; rw [hg, decide_eq_true h3, hall, hal]; rfl
    rw [e0]
    have HAL := Lib.hid hal
    clear hal hall
    go_enter Tryz.func96, Tryz.ntmps96
    go_wp2_with fail
    refine (Great_any _ _).mono ?_
    rintro e w1 ⟨rfl, hb1⟩
    rw [hg]
    have HB1 := Lib.hid (HB0.out.trans (hb1.mono HB0.out.size))
    clear c0 c1
    obtain ⟨c0, c1⟩ := cells2 (bget' hb1 HBX.out)
    clear hb1
    go_wp2_with fail
    refine (allTypes_any c.types _ w1 (HK.out.mono HB1.out.size fun b o hlt hr => TysAt.keep HB1.out HB1.out.size _ _ _ hlt hr) hh (by omega)).mono ?_
    rintro e w2 ⟨rfl, hb2⟩
    rw [HAL.out]
    have HB2 := Lib.hid (HB1.out.trans (hb2.mono HB1.out.size))
    clear hb2 c0 c1
    go_wp2_with fail
    refine (ask_yes _).mono ?_
    rintro e w3 ⟨rfl, rfl⟩
    have hin := inner151
    go_wp2_with fail
    refine (conInner_any _ _ _).mono ?_
    rintro e w4 ⟨rfl, hb4⟩
    have HB4 := Lib.hid (HB2.out.trans (hb4.mono HB2.out.size))
    clear hb4 hin
    go_wp2
    go_loopw [115] (fun i wr => i = .int .i64 0 ∧ Below w.heap.size w wr) (fun _ _ => 0)
    case atStart => exact ⟨rfl, HB4.out⟩
    case round =>
      obtain ⟨rfl, hB⟩ := hrel
      have HB := Lib.hid hB
      clear hB
      go_wp2
      go_end0
      exact ⟨.inl ⟨rfl, _, rfl⟩, HB.out⟩
end Go.Proofs.YtjpahjfjpkbcnaaGreat

/- Asking of a function of a module. -/
namespace Go.Proofs.YtjpahjfjpkbcnaaGreat
open Go.Proofs Go.RowKit
attribute [local go_sem] Oper.semAt_some

theorem inner154 (v : Value) (w : World) : (Go.method 340 154 v "hearth/term.inner").run Tryz.prog w = .ok (211, v) w := inner_of Tryz.underlying154 (by kernel_rfl) v w

set_option maxHeartbeats 8000000 in
set_option maxRecDepth 100000 in
theorem askFun_any (f : Fn) (v : Value) (w : World) (hv : FnAt w.heap.size w f v) (h1 : heightY f.dom ≤ 1000) (h2 : heightY f.cod ≤ 1000) (h3 : heightM f.body ≤ 1000) (h4 : okM f.body) :
    Calls Tryz.prog 96 #[.iface 154 v] w fun e w' => AskEnd (refFn f) e ∧ Below w.heap.size w w' := by
  obtain ⟨x2, x3, x4, x5, x6, x7, x8, x9, x10, x11, x12, x13, x14, rfl, hsn, hsp, hdo, hco, hbo⟩ := hv
  obtain ⟨i0, i1, i2, i3, i4, i5, rfl, rfl, rfl, rfl⟩ := hdo.shape
  obtain ⟨j0, j1, j2, j3, j4, j5, rfl, rfl, rfl, rfl⟩ := hco.shape
  obtain ⟨l0, l1, l2, l3, l4, l5, l6, l7, l8, rfl, rfl, rfl, rfl, rfl⟩ := hbo.shape
  have a1 : ∀ v w, (Instr.typeAssert (.iface 154 v) 147 117 true).run Tryz.prog w = _ := as_no Tryz.underlying117 zero117 (by decide)
  have a2 : ∀ v w, (Instr.typeAssert (.iface 154 v) 147 149 true).run Tryz.prog w = _ := as_no Tryz.underlying149 zero149 (by decide)
  have a3 : ∀ v w, (Instr.typeAssert (.iface 154 v) 147 151 true).run Tryz.prog w = _ := as_no Tryz.underlying151 zero151 (by decide)
  have a4 : ∀ v w, (Instr.typeAssert (.iface 154 v) 147 154 true).run Tryz.prog w = _ := as_yes Tryz.underlying154
  have hbx := heap_alloc_new w (.cells #[.string f.name, .string f.param, .int .i64 i0, .int .i64 i1, .string i2, .slice i3 i4 i5, .int .i64 j0, .int .i64 j1, .string j2, .slice j3 j4 j5, .int .i64 l0, .int .i64 l1, .string l2, .slice l3 l4 l5, .slice l6 l7 l8] 154)
  have hb0 := (Below.refl w.heap.size w).alloc (Nat.le_refl _) (.cells #[.string f.name, .string f.param, .int .i64 i0, .int .i64 i1, .string i2, .slice i3 i4 i5, .int .i64 j0, .int .i64 j1, .string j2, .slice j3 j4 j5, .int .i64 l0, .int .i64 l1, .string l2, .slice l3 l4 l5, .slice l6 l7 l8] 154)
  have HT1 := Lib.hid fun (V : World) (hb : Below w.heap.size w V) => whole_any f.dom _ V (TyAt.keep hb hb.size _ _ hdo) h1
  have HT2 := Lib.hid fun (V : World) (hb : Below w.heap.size w V) => whole_any f.cod _ V (TyAt.keep hb hb.size _ _ hco) h2
  have HM := Lib.hid fun (V : World) (hb : Below w.heap.size w V) => Check_any f.body _ V (TmAt.keep hb hb.size _ _ hbo) h3 h4
  have HN1 := Lib.hid fun (V : World) (_ : Below w.heap.size w V) => Name_any f.name V
  have HN2 := Lib.hid fun (V : World) (_ : Below w.heap.size w V) => Name_any f.param V
  have HR := Lib.hid (show refFn f = (nameB f.name && nameB f.param && wholeB f.dom && wholeB f.cod && termB f.body) by unfold refFn; rw [wholeB_eq, wholeB_eq, refTermB_eq])
  have HX := Lib.hid hbx; have HB := Lib.hid hb0
  obtain ⟨u0, u1, u2, u3, u4, u5, u6, u7, u8, u9, u10, u11, u12, u13, u14⟩ := cells15 hbx
  clear hbx hb0 hdo hco hbo
  go_enter Tryz.func96, Tryz.ntmps96
  go_wp2_with fail
  refine (HN1.out _ HB.out).mono ?_
  rintro e w0 ⟨rfl, hb0⟩
  have hx0 := bget' hb0 HX.out
  have hbv0 := HB.out.trans (hb0.mono HB.out.size)
  clear HX HB u0 u1 u2 u3 u4 u5 u6 u7 u8 u9 u10 u11 u12 u13 u14 hb0
  have HX := Lib.hid hx0; have HB := Lib.hid hbv0
  obtain ⟨u0, u1, u2, u3, u4, u5, u6, u7, u8, u9, u10, u11, u12, u13, u14⟩ := cells15 hx0
  clear hx0 hbv0
  cases hc0 : nameB f.name with
  | false =>
    have e0 : refFn f = false := by rw [HR.out]; simp [hc0]
    have HE0 := Lib.hid e0
    clear e0
    clear hc0
    go_wp2_with fail
    refine (ask_no _).mono ?_
    rintro e w9 ⟨rfl, rfl⟩
    go_wp2
    exact ⟨rfl, .inr ⟨HE0.out, rfl⟩, HB.out⟩
  | true =>
  go_wp2_with fail
  refine (HN2.out _ HB.out).mono ?_
  rintro e w1 ⟨rfl, hb1⟩
  have hx1 := bget' hb1 HX.out
  have hbv1 := HB.out.trans (hb1.mono HB.out.size)
  clear HX HB u0 u1 u2 u3 u4 u5 u6 u7 u8 u9 u10 u11 u12 u13 u14 hb1
  have HX := Lib.hid hx1; have HB := Lib.hid hbv1
  obtain ⟨u0, u1, u2, u3, u4, u5, u6, u7, u8, u9, u10, u11, u12, u13, u14⟩ := cells15 hx1
  clear hx1 hbv1
  cases hc1 : nameB f.param with
  | false =>
    have e0 : refFn f = false := by rw [HR.out]; simp [hc1]
    have HE0 := Lib.hid e0
    clear e0
    clear hc1
    go_wp2_with fail
    refine (ask_no _).mono ?_
    rintro e w9 ⟨rfl, rfl⟩
    go_wp2
    exact ⟨rfl, .inr ⟨HE0.out, rfl⟩, HB.out⟩
  | true =>
  go_wp2_with fail
  refine (HT1.out _ HB.out).mono ?_
  rintro e w2 ⟨rfl, hb2⟩
  have hx2 := bget' hb2 HX.out
  have hbv2 := HB.out.trans (hb2.mono HB.out.size)
  clear HX HB u0 u1 u2 u3 u4 u5 u6 u7 u8 u9 u10 u11 u12 u13 u14 hb2
  have HX := Lib.hid hx2; have HB := Lib.hid hbv2
  obtain ⟨u0, u1, u2, u3, u4, u5, u6, u7, u8, u9, u10, u11, u12, u13, u14⟩ := cells15 hx2
  clear hx2 hbv2
  cases hc2 : wholeB f.dom with
  | false =>
    have e0 : refFn f = false := by rw [HR.out]; simp [hc2]
    have HE0 := Lib.hid e0
    clear e0
    clear hc2
    go_wp2_with fail
    refine (ask_no _).mono ?_
    rintro e w9 ⟨rfl, rfl⟩
    go_wp2
    exact ⟨rfl, .inr ⟨HE0.out, rfl⟩, HB.out⟩
  | true =>
  go_wp2_with fail
  refine (HT2.out _ HB.out).mono ?_
  rintro e w3 ⟨rfl, hb3⟩
  have hx3 := bget' hb3 HX.out
  have hbv3 := HB.out.trans (hb3.mono HB.out.size)
  clear HX HB u0 u1 u2 u3 u4 u5 u6 u7 u8 u9 u10 u11 u12 u13 u14 hb3
  have HX := Lib.hid hx3; have HB := Lib.hid hbv3
  obtain ⟨u0, u1, u2, u3, u4, u5, u6, u7, u8, u9, u10, u11, u12, u13, u14⟩ := cells15 hx3
  clear hx3 hbv3
  cases hc3 : wholeB f.cod with
  | false =>
    have e0 : refFn f = false := by rw [HR.out]; simp [hc3]
    have HE0 := Lib.hid e0
    clear e0
    clear hc3
    go_wp2_with fail
    refine (ask_no _).mono ?_
    rintro e w9 ⟨rfl, rfl⟩
    go_wp2
    exact ⟨rfl, .inr ⟨HE0.out, rfl⟩, HB.out⟩
  | true =>
  go_wp2_with fail
  refine (ask_yes _).mono ?_
  rintro e w8 ⟨rfl, rfl⟩
  go_wp2_with fail
  refine (HM.out _ HB.out).mono ?_
  rintro e w7 ⟨rfl, hb7⟩
  have HB7 := Lib.hid (HB.out.trans (hb7.mono HB.out.size))
  clear hb7 u0 u1 u2 u3 u4 u5 u6 u7 u8 u9 u10 u11 u12 u13 u14
  cases hc7 : termB f.body with
  | false =>
    have e0 : refFn f = false := by rw [HR.out]; simp [hc7]
    have HE0 := Lib.hid e0
    clear e0
    have he : errOf false = 2 := rfl
    rw [he]
    clear hc7
    go_wp2_with fail
    refine (ask_no _).mono ?_
    rintro e w9 ⟨rfl, rfl⟩
    go_wp2
    exact ⟨rfl, .inr ⟨HE0.out, rfl⟩, HB7.out⟩
  | true =>
    have e0 : refFn f = true := by rw [HR.out, hc0, hc1, hc2, hc3, hc7]; rfl
    have HE0 := Lib.hid e0
    clear e0
    have he : errOf true = 0 := rfl
    rw [he]
    clear hc7
    go_wp2_with fail
    refine (ask_yes _).mono ?_
    rintro e w9 ⟨rfl, rfl⟩
    have hin := inner154
    go_wp2_with fail
    refine (funInner_any _ _).mono ?_
    rintro e w4 ⟨rfl, hb4⟩
    have HB4 := Lib.hid (HB7.out.trans (hb4.mono HB7.out.size))
    clear hb4 hin
    go_wp2
    go_loopw [115] (fun i wr => i = .int .i64 0 ∧ Below w.heap.size w wr) (fun _ _ => 0)
    case atStart => exact ⟨rfl, HB4.out⟩
    case round =>
      obtain ⟨rfl, hB⟩ := hrel
      have HB9 := Lib.hid hB
      clear hB
      go_wp2
      go_end0
      exact ⟨.inl ⟨HE0.out, _, rfl⟩, HB9.out⟩

end Go.Proofs.YtjpahjfjpkbcnaaGreat

/- What is within a data type: a piece for each constructor. -/
namespace Go.Proofs.YtjpahjfjpkbcnaaGreat
open Go.Proofs Go.RowKit

theorem Tz.info147 : (Tryz.prog.info? 147).map (fun i => (i.zero, i.size, i.bytes)) = some (some .nilIface, 1, 16) := by kernel_rfl

/-- The values are the pieces of some constructors. -/
def ConsOf (w : World) (cs : List Co) (vs : List Value) : Prop := ∀ i, i < vs.length → ∃ c cv, cs[i]? = some c ∧ vs[i]? = some (.iface 151 cv) ∧ CoAt w.heap.size w c cv

set_option maxHeartbeats 4000000 in
set_option maxRecDepth 100000 in
theorem dataInner_any (d : Dt) (v : Value) (w : World) (hv : DtAt w.heap.size w d v) (hl : d.cons.length ≤ 1000000) :
    Calls Tryz.prog 209 #[v] w fun e w' => (∃ v' vs, e = .returned v' ∧ w'.ownsRow (w.heap.size + 1) 147 1 v' d.cons.length vs ∧ vs.length = d.cons.length ∧ ConsOf w d.cons vs) ∧ Below w.heap.size w w' := by
  obtain ⟨i0, hi, hz0, hz1, hz2⟩ := info_parts Tz.info147
  obtain ⟨kv, rfl, htx, hk⟩ := hv
  obtain ⟨a, cap, rfl, hcap, hlc, hka⟩ := hk.split
  have hbx := heap_alloc_new w (.cells #[.string d.name, .slice a d.cons.length cap] 149)
  have hb0 := (Below.refl w.heap.size w).alloc (Nat.le_refl _) (.cells #[.string d.name, .slice a d.cons.length cap] 149)
  unfold maxLen at hcap
  have HKA := Lib.hid hka; have HB0 := Lib.hid hb0
  obtain ⟨c0, c1⟩ := cells2 hbx
  clear hk hka hb0 hbx
  go_enter Tryz.func209, Tryz.ntmps209
  go_wp2
  clear c0 c1
  go_loopw [3, 10] (fun vo i wr => ∃ (k : Nat) (vs : List Value), k ≤ d.cons.length ∧ i = .int .i64 k ∧ wr.ownsRow (w.heap.size + 1) 147 1 vo k vs ∧ vs.length = k ∧ Hid (ConsOf w d.cons vs) ∧ Below (w.heap.size + 1) (w.alloc (.cells #[.string d.name, .slice a d.cons.length cap] 149)) wr) (fun _ i _ => d.cons.length - (intOf i).toNat)
  case atStart => exact ⟨0, [], Nat.zero_le _, rfl, World.ownsRow_nil _ _ _ _, rfl, (by intro i h; simp at h), Below.refl _ _⟩
  case round =>
    obtain ⟨k, vs, hk, rfl, hrow, hvl, hco, hB⟩ := hrel
    have hbw : Below w.heap.size w wr := HB0.out.trans (hB.mono (by omega))
    have hsz : w.heap.size + 1 ≤ wr.heap.size := by have := hB.size; simp at this; omega
    obtain ⟨ra, rc, rfl⟩ := slice_of_row hrow
    by_cases hlt : k < d.cons.length
    · have hlt' : (k : Int) < (d.cons.length : Int) := by omega
      obtain ⟨b, o, rfl, hbn, hps⟩ := HKA.out (by omega)
      obtain ⟨e0, e1, g0, g1, kv2, hev, htx2, hk2⟩ := hps k hlt
      have hat0 : CoAt w.heap.size w d.cons[k] (.agg #[e0, e1]) := ⟨kv2, hev, htx2, hk2⟩
      simp only [Value.agg.injEq, Array.mk.injEq, List.cons.injEq, and_true] at hev
      obtain ⟨rfl, rfl⟩ := hev
      obtain ⟨a2, cap2, rfl, -, -, -⟩ := hk2.split
      have q0 := (hbw.cell (p := ⟨b, _, none⟩) hbn).trans g0
      have q1 := (hbw.cell (p := ⟨b, _, none⟩) hbn).trans g1
      have HROW := Lib.hid hrow; have HB := Lib.hid hB; have HAT0 := Lib.hid hat0
      have hr2 := (HROW.out.alloc (.cells #[.string d.cons[k].name, .slice a2 d.cons[k].types.length cap2] 145)).alloc (.cells #[.iface 151 (.agg #[.string d.cons[k].name, .slice a2 d.cons[k].types.length cap2])] 147)
      have hnw := cells_new (wr.alloc (.cells #[.string d.cons[k].name, .slice a2 d.cons[k].types.length cap2] 145)) [.iface 151 (.agg #[.string d.cons[k].name, .slice a2 d.cons[k].types.length cap2])] 147
      have hone : ∀ u ∈ [Value.iface 151 (.agg #[.string d.cons[k].name, .slice a2 d.cons[k].types.length cap2])], u.oneCell' = true := by intro u hu; simp at hu; rcases hu with rfl; rfl
      rw [World.size_alloc] at hnw
      have HR2 := Lib.hid hr2; have HNW := Lib.hid hnw; have HONE := Lib.hid hone
      have hx5 := heap_alloc_new wr (.cells #[.string d.cons[k].name, .slice a2 d.cons[k].types.length cap2] 145)
      have hb5 : Below (w.heap.size + 1) wr (wr.alloc (.cells #[.string d.cons[k].name, .slice a2 d.cons[k].types.length cap2] 145)) := (Below.refl _ wr).alloc hsz _
      have hs5 : (wr.alloc (.cells #[.string d.cons[k].name, .slice a2 d.cons[k].types.length cap2] 145)).heap.size = wr.heap.size + 1 := by simp
      clear hrow hB hat0 hbw g0 g1 hps hk2 hr2 hnw hone
      go_upto_region 5 with fail
      generalize (wr.alloc (.cells #[.string d.cons[k].name, .slice a2 d.cons[k].types.length cap2] 145)) = V at *
      clear q0 q1
      obtain ⟨c0, c1⟩ := cells2 hx5
      have hbs : Below (w.heap.size + 1) V (V.alloc (.cells #[.iface 151 (.agg #[.string d.cons[k].name, .slice a2 d.cons[k].types.length cap2])] 147)) := (Below.refl _ V).alloc (by omega) _
      have HBS := Lib.hid ((HB.out.trans hb5).trans hbs)
      clear hbs hb5 hx5
      have hvo : ∀ g, (Value.slice ra k rc).ownBlock = some g → w.heap.size + 1 ≤ g := fun g hg => (HROW.out.lt g hg).1
      have HVO := Lib.hid hvo
      clear hvo
      go_wp2_with (at_builtin; refine wpList_append_own_at _ rfl _ _ 155 rfl (w.heap.size + 1) 147 i0 _ 1 16 Tryz.underlying155 hi hz0 hz1 hz2 rfl (by decide) (.slice ra k rc) k vs rfl HR2.out ⟨wr.heap.size + 1, 0, none⟩ 1 1 [.iface 151 (.agg #[.string d.cons[k].name, .slice a2 d.cons[k].types.length cap2])] rfl rfl HNW.out HONE.out (by unfold maxLen; omega) (by omega) (by simp; omega) ?_; intro v' w' hown' hgr hnil hat; have HOWN := Lib.hid hown'; have HGR := Lib.hid hgr; clear hown' hgr hnil hat)
      go_roundw
      case rel =>
        have hfin := HBS.out.trans (below_of_grown HGR.out (by simp; omega) HVO.out)
        refine ⟨k + 1, _, by omega, by go_num, HOWN.out, by simp [hvl], ?_, hfin⟩
        intro i hi
        rw [List.length_append, List.length_singleton] at hi
        by_cases hik : i < vs.length
        · rw [List.getElem?_append_left hik]
          exact hco.out i hik
        · obtain rfl : i = k := by omega
          refine ⟨d.cons[i], _, by simp [hlt], ?_, HAT0.out⟩
          rw [List.getElem?_append_right (by omega), hvl]
          simp
      case measure => simp [intOf]; omega
    · obtain rfl : k = d.cons.length := by omega
      have HROW := Lib.hid hrow; have HBW := Lib.hid hbw
      clear hrow hbw hB
      go_wp2
      go_ret
      exact ⟨⟨_, vs, rfl, HROW.out, hvl, hco.out⟩, HBW.out⟩

end Go.Proofs.YtjpahjfjpkbcnaaGreat

/- Asking of a data type of a module: its name, how many constructors, and then each of them. -/
namespace Go.Proofs.YtjpahjfjpkbcnaaGreat
open Go.Proofs Go.RowKit
attribute [local go_sem] Oper.semAt_some

theorem inner149 (v : Value) (w : World) : (Go.method 340 149 v "hearth/term.inner").run Tryz.prog w = .ok (209, v) w := inner_of Tryz.underlying149 (by kernel_rfl) v w

theorem row_get {w : World} {base : Nat} {e : TypeId} {v : Value} {n : Nat} {vs : List Value} (h : w.ownsRow base e 1 v n vs) {i : Nat} (hi : i < n) :
    ∃ g cap, v = .slice (some ⟨g, 0, none⟩) n cap ∧ base ≤ g ∧ g < w.heap.size ∧ w.cell? ⟨g, i, none⟩ = vs[i]? ∧ vs.length = n := by
  obtain ⟨hl, ⟨rfl, rfl⟩ | ⟨g, cap, cur, rfl, hb, hg, hn, hc, hs, ht⟩⟩ := h
  · omega
  · have hgs : g < w.heap.size := by
      rw [Array.getElem?_eq_some_iff] at hg; exact hg.1
    refine ⟨g, cap, rfl, hb, hgs, ?_, by omega⟩
    have : vs[i]? = cur[i]? := by
      rw [← ht, List.getElem?_take_of_lt (by omega), Array.getElem?_toList]
    rw [this]
    simp [World.cell?, hg]

theorem CoAt.keep {n₀ n₁ : Nat} {w w' : World} (hb : Below n₀ w w') (hn : n₀ ≤ n₁) {c : Co} {v : Value} (h : CoAt n₀ w c v) : CoAt n₁ w' c v := by
  obtain ⟨kv, h1, h2, h3⟩ := h
  exact ⟨kv, h1, h2, h3.mono hn fun b o hlt hr => TysAt.keep hb hn _ _ _ hlt hr⟩

/-- A call for a piece, whatever the world is behind one world. -/
def PieceAt (W : World) (b : Bool) (v : Value) : Prop := ∀ V, Below W.heap.size W V → Calls Tryz.prog 96 #[v] V fun e w' => AskEnd b e ∧ Below V.heap.size V w'

set_option maxHeartbeats 4000000 in
set_option maxRecDepth 100000 in
theorem askDt_any (d : Dt) (v : Value) (w : World) (hv : DtAt w.heap.size w d v) (hh : ∀ c ∈ d.cons, ∀ t ∈ c.types, heightY t ≤ 1000) :
    Calls Tryz.prog 96 #[.iface 149 v] w fun e w' => AskEnd (refDt d) e ∧ Below w.heap.size w w' := by
  have hvv := hv
  obtain ⟨kv, rfl, htx, hk⟩ := hv
  obtain ⟨a, cap, rfl, hcap, hlc, -⟩ := hk.split
  have a1 : ∀ v w, (Instr.typeAssert (.iface 149 v) 147 117 true).run Tryz.prog w = _ := as_no Tryz.underlying117 zero117 (by decide)
  have a2 : ∀ v w, (Instr.typeAssert (.iface 149 v) 147 149 true).run Tryz.prog w = _ := as_yes Tryz.underlying149
  have hbx := heap_alloc_new w (.cells #[.string d.name, .slice a d.cons.length cap] 149)
  have hb0 := (Below.refl w.heap.size w).alloc (Nat.le_refl _) (.cells #[.string d.name, .slice a d.cons.length cap] 149)
  have HBX := Lib.hid hbx; have HB0 := Lib.hid hb0; have HV := Lib.hid hvv
  have HR := Lib.hid (show refDt d = (greatB d.name && inB d.cons.length 1 5 && d.cons.all refCo) from rfl)
  obtain ⟨c0, c1⟩ := cells2 hbx
  unfold maxLen at hcap
  clear hk hvv hbx hb0
  cases hg : greatB d.name with
  | false =>
    have e0 : refDt d = false := by rw [HR.out, hg]; rfl
    rw [e0]
    go_enter Tryz.func96, Tryz.ntmps96
    go_wp2_with fail
    refine (Great_any _ _).mono ?_
    rintro e w1 ⟨rfl, hb1⟩
    rw [hg]
    have HB1 := Lib.hid (HB0.out.trans (hb1.mono HB0.out.size))
    clear hb1
    go_wp2_with fail
    refine (ask_no _).mono ?_
    rintro e w2 ⟨rfl, rfl⟩
    go_wp2
    exact ⟨rfl, .inr ⟨rfl, rfl⟩, HB1.out⟩
  | true =>
  by_cases h1 : 1 ≤ d.cons.length
  case neg =>
    have h1' : (d.cons.length : Int) = 0 := by omega
    have e0 : refDt d = false := by
      rw [HR.out]; unfold inB; simp [show ¬ ((1 : Int) ≤ (d.cons.length : Int)) by omega]
    rw [e0]
    go_enter Tryz.func96, Tryz.ntmps96
    go_wp2_with fail
    refine (Great_any _ _).mono ?_
    rintro e w1 ⟨rfl, hb1⟩
    rw [hg]
    have HB1 := Lib.hid (HB0.out.trans (hb1.mono HB0.out.size))
    clear c0 c1
    obtain ⟨c0, c1⟩ := cells2 (bget' hb1 HBX.out)
    clear hb1
    go_wp2_with fail
    refine (ask_no _).mono ?_
    rintro e w2 ⟨rfl, rfl⟩
    go_wp2
    exact ⟨rfl, .inr ⟨rfl, rfl⟩, HB1.out⟩
  by_cases h5 : d.cons.length ≤ 5
  case neg =>
    have h5' : 5 < (d.cons.length : Int) := by omega
    have e0 : refDt d = false := by
      rw [HR.out]; unfold inB; simp [show ¬ ((d.cons.length : Int) ≤ 5) by omega]
    rw [e0]
    go_enter Tryz.func96, Tryz.ntmps96
    go_wp2_with fail
    refine (Great_any _ _).mono ?_
    rintro e w1 ⟨rfl, hb1⟩
    rw [hg]
    have HB1 := Lib.hid (HB0.out.trans (hb1.mono HB0.out.size))
    clear c0 c1
    obtain ⟨c0, c1⟩ := cells2 (bget' hb1 HBX.out)
    clear hb1
    go_wp2_with fail
    rw [show decide ((d.cons.length : Int) ≤ 5) = false by simp; omega]
    refine (ask_no _).mono ?_
    rintro e w2 ⟨rfl, rfl⟩
    go_wp2
    exact ⟨rfl, .inr ⟨rfl, rfl⟩, HB1.out⟩
  have h1' : (1 : Int) ≤ (d.cons.length : Int) := by omega
  have h5' : (d.cons.length : Int) ≤ 5 := by omega
  have HR2 := Lib.hid (show refDt d = d.cons.all refCo by rw [HR.out, hg]; unfold inB; simp [show (1 : Int) ≤ (d.cons.length : Int) by omega, show (d.cons.length : Int) ≤ 5 by omega])
  go_enter Tryz.func96, Tryz.ntmps96
  go_wp2_with fail
  refine (Great_any _ _).mono ?_
  rintro e w1 ⟨rfl, hb1⟩
  rw [hg]
  have HB1 := Lib.hid (HB0.out.trans (hb1.mono HB0.out.size))
  clear c0 c1
  obtain ⟨c0, c1⟩ := cells2 (bget' hb1 HBX.out)
  clear hb1
  go_wp2_with fail
  refine (ask_yes _).mono ?_
  rintro e w3 ⟨rfl, rfl⟩
  have hin := inner149
  go_wp2_with fail
  refine (dataInner_any d _ w1 (DtAt.keep HB1.out HB1.out.size HV.out) (by omega)).mono ?_
  rintro e w4 ⟨⟨v', vs, rfl, hrow, hvl, hco⟩, hb4⟩
  have HB4 := Lib.hid (HB1.out.trans (hb4.mono HB1.out.size))
  have hcalls : ∀ i (h : i < d.cons.length), PieceAt w4 (refCo d.cons[i]) (vs.getD i .nilIface) := by
    intro i h V hV
    obtain ⟨c, cv, hc1, hc2, hc3⟩ := hco i (by omega)
    have hc : c = d.cons[i] := by rw [List.getElem?_eq_getElem h] at hc1; exact (Option.some.inj hc1).symm
    subst hc
    rw [List.getD_eq_getElem?_getD, hc2]
    have hkk := CoAt.keep (hb4.trans (hV.mono hb4.size)) (hb4.trans (hV.mono hb4.size)).size hc3
    exact askCon_any _ _ _ hkk (hh _ (List.getElem_mem h))
  have HC := Lib.hid hcalls; have HROW := Lib.hid hrow
  obtain ⟨ra, rc, rfl⟩ := slice_of_row hrow
  clear hb4 hin hco hcalls hrow c0 c1
  go_wp2
  go_loopw [115] (fun i wr => ∃ k : Nat, k ≤ d.cons.length ∧ i = .int .i64 k ∧ Hid (d.cons.all refCo = (d.cons.drop k).all refCo) ∧ Below w4.heap.size w4 wr) (fun i _ => d.cons.length - (intOf i).toNat)
  case atStart => exact ⟨0, Nat.zero_le _, rfl, rfl, Below.refl _ _⟩
  case round =>
    obtain ⟨k, hk, rfl, HP, hB⟩ := hrel
    by_cases hlt : k < d.cons.length
    · have hlt' : (k : Int) < (d.cons.length : Int) := by omega
      obtain ⟨g, cap', hsl, hbg, hgs, hcell, hvl'⟩ := row_get HROW.out hlt
      simp only [Value.slice.injEq, true_and] at hsl
      obtain ⟨rfl, rfl⟩ := hsl
      have q0 : wr.cell? ⟨g, k, none⟩ = some (vs.getD k .nilIface) := by
        rw [hB.cell (p := ⟨g, _, none⟩) hgs, hcell, List.getD_eq_getElem?_getD, List.getElem?_eq_getElem (by omega)]; rfl
      have hd : (d.cons.drop k).all refCo = (refCo d.cons[k] && (d.cons.drop (k + 1)).all refCo) := by rw [List.drop_eq_getElem_cons hlt, List.all_cons]
      have HB := Lib.hid hB; have HCK := Lib.hid (HC.out k hlt wr hB)
      generalize vs.getD k .nilIface = pv at *
      clear hB hcell
      cases hx : refCo d.cons[k] with
      | true =>
        rw [hx, Bool.true_and] at hd
        have HD := Lib.hid hd
        clear hd
        go_wp2_with fail
        refine HCK.out.mono ?_
        rintro e w5 ⟨he, hb5⟩
        rw [hx] at he
        obtain ⟨v5, rfl⟩ := he.yes rfl
        have HB5 := Lib.hid (HB.out.trans (hb5.mono HB.out.size))
        clear he hb5 q0
        go_wp2
        go_roundw
        case rel => exact ⟨k + 1, by omega, by go_num, HP.out.trans HD.out, HB5.out⟩
        case measure => simp [intOf]; omega
      | false =>
        rw [hx, Bool.false_and] at hd
        have HD := Lib.hid hd
        clear hd
        go_wp2_with fail
        refine HCK.out.mono ?_
        rintro e w5 ⟨he, hb5⟩
        rw [hx] at he
        have he' := he.no rfl
        subst he'
        have HB5 := Lib.hid (HB.out.trans (hb5.mono HB.out.size))
        clear he hb5 q0
        go_wp2
        exact ⟨rfl, .inr ⟨HR2.out.trans (HP.out.trans HD.out), rfl⟩, HB4.out.trans (HB5.out.mono HB4.out.size)⟩
    · obtain rfl : k = d.cons.length := by omega
      have HB := Lib.hid hB
      clear hB
      go_wp2
      go_end0
      exact ⟨.inl ⟨HR2.out.trans (HP.out.trans (by simp)), _, rfl⟩, HB4.out.trans (HB.out.mono HB4.out.size)⟩
end Go.Proofs.YtjpahjfjpkbcnaaGreat

/- What is within a module: a piece for each data type, and one for each function. -/
namespace Go.Proofs.YtjpahjfjpkbcnaaGreat
open Go.Proofs Go.RowKit

/-- The values are the pieces of some data types, and of some functions. -/
def DatsOf (w : World) (ds : List Dt) (vs : List Value) : Prop := ∀ i (h : i < ds.length), i < vs.length → ∃ dv, vs[i]? = some (.iface 149 dv) ∧ DtAt w.heap.size w ds[i] dv
def FunsOf (w : World) (n : Nat) (fs : List Fn) (vs : List Value) : Prop := ∀ i (h : i < fs.length), n + i < vs.length → ∃ fv, vs[n + i]? = some (.iface 154 fv) ∧ FnAt w.heap.size w fs[i] fv

set_option maxHeartbeats 8000000 in
set_option maxRecDepth 100000 in
theorem modInner_any (m : Md) (v : Value) (w : World) (hv : MdAt w.heap.size w m v) (hl : m.datas.length ≤ 1000000) (hl2 : m.funs.length ≤ 1000000) :
    Calls Tryz.prog 208 #[v] w fun e w' => (∃ v' vs, e = .returned v' ∧ w'.ownsRow (w.heap.size + 1) 147 1 v' (m.datas.length + m.funs.length) vs ∧ vs.length = m.datas.length + m.funs.length ∧ DatsOf w m.datas vs ∧ FunsOf w m.datas.length m.funs vs) ∧ Below w.heap.size w w' := by
  obtain ⟨i0, hi, hz0, hz1, hz2⟩ := info_parts Tz.info147
  obtain ⟨dv, fv, rfl, htx, hk, hf⟩ := hv
  obtain ⟨a, cap, rfl, hcap, hlc, hka⟩ := hk.split
  obtain ⟨a', cap', rfl, hcap', hlc', hfa⟩ := hf.split
  obtain ⟨WA, hWA⟩ : ∃ W, W = w.alloc (.cells #[.string m.name, .slice a m.datas.length cap, .slice a' m.funs.length cap'] 117) := ⟨_, rfl⟩
  have hbx : WA.heap[w.heap.size]? = some (.cells #[.string m.name, .slice a m.datas.length cap, .slice a' m.funs.length cap'] 117 (0, 0)) := by rw [hWA]; exact heap_alloc_new w _
  have hb0 : Below w.heap.size w WA := by rw [hWA]; exact (Below.refl w.heap.size w).alloc (Nat.le_refl _) _
  have hszA : WA.heap.size = w.heap.size + 1 := by rw [hWA]; simp
  unfold maxLen at hcap hcap'
  have HKA := Lib.hid hka; have HFA := Lib.hid hfa; have HB0 := Lib.hid hb0; have HBX := Lib.hid hbx
  obtain ⟨c0, c1, c2⟩ := cells3 hbx
  clear hk hka hf hfa hb0 hbx
  go_enter Tryz.func208, Tryz.ntmps208
  go_upto_region 1 with fail
  rw [← hWA]
  clear hWA
  go_wp2
  clear c0 c1 c2
  go_loopw [3, 12] (fun vo i wr => ∃ (k : Nat) (vs : List Value), k ≤ m.datas.length ∧ i = .int .i64 k ∧ wr.ownsRow (w.heap.size + 1) 147 1 vo k vs ∧ vs.length = k ∧ Hid (DatsOf w m.datas vs) ∧ Below (w.heap.size + 1) WA wr) (fun _ i _ => m.datas.length - (intOf i).toNat)
  case atStart => exact ⟨0, [], Nat.zero_le _, rfl, World.ownsRow_nil _ _ _ _, rfl, (by intro i h h'; simp at h'), Below.refl _ _⟩
  case round =>
    obtain ⟨k, vs, hk, rfl, hrow, hvl, hco, hB⟩ := hrel
    have hbw : Below w.heap.size w wr := HB0.out.trans (hB.mono (by omega))
    have hsz : w.heap.size + 1 ≤ wr.heap.size := by have := hB.size; omega
    obtain ⟨ra, rc, rfl⟩ := slice_of_row hrow
    by_cases hlt : k < m.datas.length
    · have hlt' : (k : Int) < (m.datas.length : Int) := by omega
      obtain ⟨b, o, rfl, hbn, hps⟩ := HKA.out (by omega)
      obtain ⟨e0, e1, g0, g1, kv2, hev, htx2, hk2⟩ := hps k hlt
      have hat0 : DtAt w.heap.size w m.datas[k] (.agg #[e0, e1]) := ⟨kv2, hev, htx2, hk2⟩
      simp only [Value.agg.injEq, Array.mk.injEq, List.cons.injEq, and_true] at hev
      obtain ⟨rfl, rfl⟩ := hev
      obtain ⟨a2, cap2, rfl, -, -, -⟩ := hk2.split
      have q0 := (hbw.cell (p := ⟨b, _, none⟩) hbn).trans g0
      have q1 := (hbw.cell (p := ⟨b, _, none⟩) hbn).trans g1
      have HROW := Lib.hid hrow; have HB := Lib.hid hB; have HAT0 := Lib.hid hat0
      have hr2 := (HROW.out.alloc (.cells #[.string m.datas[k].name, .slice a2 m.datas[k].cons.length cap2] 112)).alloc (.cells #[.iface 149 (.agg #[.string m.datas[k].name, .slice a2 m.datas[k].cons.length cap2])] 147)
      have hnw := cells_new (wr.alloc (.cells #[.string m.datas[k].name, .slice a2 m.datas[k].cons.length cap2] 112)) [.iface 149 (.agg #[.string m.datas[k].name, .slice a2 m.datas[k].cons.length cap2])] 147
      have hone : ∀ u ∈ [Value.iface 149 (.agg #[.string m.datas[k].name, .slice a2 m.datas[k].cons.length cap2])], u.oneCell' = true := by intro u hu; simp at hu; rcases hu with rfl; rfl
      rw [World.size_alloc] at hnw
      have HR2 := Lib.hid hr2; have HNW := Lib.hid hnw; have HONE := Lib.hid hone
      have hx5 := heap_alloc_new wr (.cells #[.string m.datas[k].name, .slice a2 m.datas[k].cons.length cap2] 112)
      have hb5 : Below (w.heap.size + 1) wr (wr.alloc (.cells #[.string m.datas[k].name, .slice a2 m.datas[k].cons.length cap2] 112)) := (Below.refl _ wr).alloc hsz _
      have hs5 : (wr.alloc (.cells #[.string m.datas[k].name, .slice a2 m.datas[k].cons.length cap2] 112)).heap.size = wr.heap.size + 1 := by simp
      clear hrow hB hat0 hbw g0 g1 hps hk2 hr2 hnw hone
      go_upto_region 5 with fail
      generalize (wr.alloc (.cells #[.string m.datas[k].name, .slice a2 m.datas[k].cons.length cap2] 112)) = V at *
      clear q0 q1
      obtain ⟨c0, c1⟩ := cells2 hx5
      have hbs : Below (w.heap.size + 1) V (V.alloc (.cells #[.iface 149 (.agg #[.string m.datas[k].name, .slice a2 m.datas[k].cons.length cap2])] 147)) := (Below.refl _ V).alloc (by omega) _
      have HBS := Lib.hid ((HB.out.trans hb5).trans hbs)
      clear hbs hb5 hx5
      have hvo : ∀ g, (Value.slice ra k rc).ownBlock = some g → w.heap.size + 1 ≤ g := fun g hg => (HROW.out.lt g hg).1
      have HVO := Lib.hid hvo
      clear hvo
      go_wp2_with (at_builtin; refine wpList_append_own_at _ rfl _ _ 155 rfl (w.heap.size + 1) 147 i0 _ 1 16 Tryz.underlying155 hi hz0 hz1 hz2 rfl (by decide) (.slice ra k rc) k vs rfl HR2.out ⟨wr.heap.size + 1, 0, none⟩ 1 1 [.iface 149 (.agg #[.string m.datas[k].name, .slice a2 m.datas[k].cons.length cap2])] rfl rfl HNW.out HONE.out (by unfold maxLen; omega) (by omega) (by simp; omega) ?_; intro v' w' hown' hgr hnil hat; have HOWN := Lib.hid hown'; have HGR := Lib.hid hgr; clear hown' hgr hnil hat)
      go_roundw
      case rel =>
        have hfin := HBS.out.trans (below_of_grown HGR.out (by simp; omega) HVO.out)
        refine ⟨k + 1, _, by omega, by go_num, HOWN.out, by simp [hvl], ?_, hfin⟩
        intro i hi1 hi
        rw [List.length_append, List.length_singleton] at hi
        by_cases hik : i < vs.length
        · rw [List.getElem?_append_left hik]
          exact hco.out i hi1 hik
        · obtain rfl : i = k := by omega
          refine ⟨_, ?_, HAT0.out⟩
          rw [List.getElem?_append_right (by omega), hvl]
          simp
      case measure => simp [intOf]; omega
    · obtain rfl : k = m.datas.length := by omega
      have HROW0 := Lib.hid hrow; have HCO := Lib.hid hco.out; have HBW := Lib.hid hbw
      have hbx := bget hB HBX.out (by omega)
      obtain ⟨c0, c1, c2⟩ := cells3 hbx
      have HVL := Lib.hid hvl; have HBC := Lib.hid hB
      clear hrow hbw hB hbx hco hvl
      generalize wr = wc at *
      go_wp2
      clear c0 c1 c2
      go_loopw [3, 27] (fun vo i wr => ∃ (k : Nat) (vs : List Value), k ≤ m.funs.length ∧ i = .int .i64 k ∧ wr.ownsRow (w.heap.size + 1) 147 1 vo (m.datas.length + k) vs ∧ Hid (vs.length = m.datas.length + k) ∧ Hid (DatsOf w m.datas vs) ∧ Hid (FunsOf w m.datas.length m.funs vs) ∧ Below (w.heap.size + 1) WA wr) (fun _ i _ => m.funs.length - (intOf i).toNat)
      case atStart => exact ⟨0, vs, Nat.zero_le _, rfl, HROW0.out, HVL.out, HCO.out, (by intro i h h'; have := HVL.out; omega), HBC.out⟩
      case round =>
        clear hk HROW0 HCO HBW HVL HBC hsz
        obtain ⟨k, vs, hk, rfl, hrow, hvl, hco, hfo, hB⟩ := hrel
        have hbw : Below w.heap.size w wr := HB0.out.trans (hB.mono (by omega))
        have hsz : w.heap.size + 1 ≤ wr.heap.size := by have := hB.size; omega
        obtain ⟨ra, rc, rfl⟩ := slice_of_row hrow
        by_cases hlt : k < m.funs.length
        · have hlt' : (k : Int) < (m.funs.length : Int) := by omega
          obtain ⟨b, o, rfl, hbn, hps⟩ := HFA.out (by omega)
          obtain ⟨cs, hcl, hcc, ht⟩ := hps k hlt
          obtain ⟨x0, x1, x2, x3, x4, x5, x6, x7, x8, x9, x10, x11, x12, x13, x14, rfl, g0, g1, g2, g3, g4, g5, g6, g7, g8, g9, g10, g11, g12, g13, g14⟩ := list15 hcl hcc
          have hat := ht
          obtain ⟨y0, y1, y2, y3, z0, z1, z2, z3, t0, t1, t2, t3, t4, hev, hsn, hsp, hdo, hco', hbo⟩ := ht
          simp only [Value.agg.injEq, Array.mk.injEq, List.cons.injEq, and_true] at hev
          obtain ⟨rfl, rfl, rfl, rfl, rfl, rfl, rfl, rfl, rfl, rfl, rfl, rfl, rfl, rfl, rfl⟩ := hev
          have q0 := (hbw.cell (p := ⟨b, _, none⟩) hbn).trans g0
          have q1 := (hbw.cell (p := ⟨b, _, none⟩) hbn).trans g1
          have q2 := (hbw.cell (p := ⟨b, _, none⟩) hbn).trans g2
          have q3 := (hbw.cell (p := ⟨b, _, none⟩) hbn).trans g3
          have q4 := (hbw.cell (p := ⟨b, _, none⟩) hbn).trans g4
          have q5 := (hbw.cell (p := ⟨b, _, none⟩) hbn).trans g5
          have q6 := (hbw.cell (p := ⟨b, _, none⟩) hbn).trans g6
          have q7 := (hbw.cell (p := ⟨b, _, none⟩) hbn).trans g7
          have q8 := (hbw.cell (p := ⟨b, _, none⟩) hbn).trans g8
          have q9 := (hbw.cell (p := ⟨b, _, none⟩) hbn).trans g9
          have q10 := (hbw.cell (p := ⟨b, _, none⟩) hbn).trans g10
          have q11 := (hbw.cell (p := ⟨b, _, none⟩) hbn).trans g11
          have q12 := (hbw.cell (p := ⟨b, _, none⟩) hbn).trans g12
          have q13 := (hbw.cell (p := ⟨b, _, none⟩) hbn).trans g13
          have q14 := (hbw.cell (p := ⟨b, _, none⟩) hbn).trans g14
          obtain ⟨i0', i1', i2', i3', i4', i5', rfl, rfl, rfl, rfl⟩ := hdo.shape
          obtain ⟨j0, j1, j2, j3, j4, j5, rfl, rfl, rfl, rfl⟩ := hco'.shape
          obtain ⟨l0, l1, l2, l3, l4, l5, l6, l7, l8, rfl, rfl, rfl, rfl, rfl⟩ := hbo.shape
          have HROW := Lib.hid hrow; have HB := Lib.hid hB; have HAT0 := Lib.hid hat
          have hr2 := (HROW.out.alloc (.cells #[.string m.funs[k].name, .string m.funs[k].param, .int .i64 i0', .int .i64 i1', .string i2', .slice i3' i4' i5', .int .i64 j0, .int .i64 j1, .string j2, .slice j3 j4 j5, .int .i64 l0, .int .i64 l1, .string l2, .slice l3 l4 l5, .slice l6 l7 l8] 114)).alloc (.cells #[.iface 154 (.agg #[.string m.funs[k].name, .string m.funs[k].param, .int .i64 i0', .int .i64 i1', .string i2', .slice i3' i4' i5', .int .i64 j0, .int .i64 j1, .string j2, .slice j3 j4 j5, .int .i64 l0, .int .i64 l1, .string l2, .slice l3 l4 l5, .slice l6 l7 l8])] 147)
          have hnw := cells_new (wr.alloc (.cells #[.string m.funs[k].name, .string m.funs[k].param, .int .i64 i0', .int .i64 i1', .string i2', .slice i3' i4' i5', .int .i64 j0, .int .i64 j1, .string j2, .slice j3 j4 j5, .int .i64 l0, .int .i64 l1, .string l2, .slice l3 l4 l5, .slice l6 l7 l8] 114)) [.iface 154 (.agg #[.string m.funs[k].name, .string m.funs[k].param, .int .i64 i0', .int .i64 i1', .string i2', .slice i3' i4' i5', .int .i64 j0, .int .i64 j1, .string j2, .slice j3 j4 j5, .int .i64 l0, .int .i64 l1, .string l2, .slice l3 l4 l5, .slice l6 l7 l8])] 147
          have hone : ∀ u ∈ [Value.iface 154 (.agg #[.string m.funs[k].name, .string m.funs[k].param, .int .i64 i0', .int .i64 i1', .string i2', .slice i3' i4' i5', .int .i64 j0, .int .i64 j1, .string j2, .slice j3 j4 j5, .int .i64 l0, .int .i64 l1, .string l2, .slice l3 l4 l5, .slice l6 l7 l8])], u.oneCell' = true := by intro u hu; simp at hu; rcases hu with rfl; rfl
          rw [World.size_alloc] at hnw
          have HR2 := Lib.hid hr2; have HNW := Lib.hid hnw; have HONE := Lib.hid hone
          have hx5 := heap_alloc_new wr (.cells #[.string m.funs[k].name, .string m.funs[k].param, .int .i64 i0', .int .i64 i1', .string i2', .slice i3' i4' i5', .int .i64 j0, .int .i64 j1, .string j2, .slice j3 j4 j5, .int .i64 l0, .int .i64 l1, .string l2, .slice l3 l4 l5, .slice l6 l7 l8] 114)
          have hb5 : Below (w.heap.size + 1) wr (wr.alloc (.cells #[.string m.funs[k].name, .string m.funs[k].param, .int .i64 i0', .int .i64 i1', .string i2', .slice i3' i4' i5', .int .i64 j0, .int .i64 j1, .string j2, .slice j3 j4 j5, .int .i64 l0, .int .i64 l1, .string l2, .slice l3 l4 l5, .slice l6 l7 l8] 114)) := (Below.refl _ wr).alloc hsz _
          have hs5 : (wr.alloc (.cells #[.string m.funs[k].name, .string m.funs[k].param, .int .i64 i0', .int .i64 i1', .string i2', .slice i3' i4' i5', .int .i64 j0, .int .i64 j1, .string j2, .slice j3 j4 j5, .int .i64 l0, .int .i64 l1, .string l2, .slice l3 l4 l5, .slice l6 l7 l8] 114)).heap.size = wr.heap.size + 1 := by simp
          clear hrow hB hat hbw hps hcc hcl hdo hco' hbo hsn hsp hr2 hnw hone g0 g1 g2 g3 g4 g5 g6 g7 g8 g9 g10 g11 g12 g13 g14
          go_upto_region 10 with fail
          generalize (wr.alloc (.cells #[.string m.funs[k].name, .string m.funs[k].param, .int .i64 i0', .int .i64 i1', .string i2', .slice i3' i4' i5', .int .i64 j0, .int .i64 j1, .string j2, .slice j3 j4 j5, .int .i64 l0, .int .i64 l1, .string l2, .slice l3 l4 l5, .slice l6 l7 l8] 114)) = V at *
          clear q0 q1 q2 q3 q4 q5 q6 q7 q8 q9 q10 q11 q12 q13 q14
          obtain ⟨u0, u1, u2, u3, u4, u5, u6, u7, u8, u9, u10, u11, u12, u13, u14⟩ := cells15 hx5
          have hbs : Below (w.heap.size + 1) V (V.alloc (.cells #[.iface 154 (.agg #[.string m.funs[k].name, .string m.funs[k].param, .int .i64 i0', .int .i64 i1', .string i2', .slice i3' i4' i5', .int .i64 j0, .int .i64 j1, .string j2, .slice j3 j4 j5, .int .i64 l0, .int .i64 l1, .string l2, .slice l3 l4 l5, .slice l6 l7 l8])] 147)) := (Below.refl _ V).alloc (by omega) _
          have HBS := Lib.hid ((HB.out.trans hb5).trans hbs)
          clear hbs hb5 hx5
          have hvo : ∀ g, (Value.slice ra (m.datas.length + k) rc).ownBlock = some g → w.heap.size + 1 ≤ g := fun g hg => (HROW.out.lt g hg).1
          have HVO := Lib.hid hvo
          clear hvo
          go_wp2_with (at_builtin; refine wpList_append_own_at _ rfl _ _ 155 rfl (w.heap.size + 1) 147 i0 _ 1 16 Tryz.underlying155 hi hz0 hz1 hz2 rfl (by decide) (.slice ra (m.datas.length + k) rc) (m.datas.length + k) vs rfl HR2.out ⟨wr.heap.size + 1, 0, none⟩ 1 1 [.iface 154 (.agg #[.string m.funs[k].name, .string m.funs[k].param, .int .i64 i0', .int .i64 i1', .string i2', .slice i3' i4' i5', .int .i64 j0, .int .i64 j1, .string j2, .slice j3 j4 j5, .int .i64 l0, .int .i64 l1, .string l2, .slice l3 l4 l5, .slice l6 l7 l8])] rfl rfl HNW.out HONE.out (by unfold maxLen; omega) (by omega) (by simp; omega) ?_; intro v' w' hown' hgr hnil hat; have HOWN := Lib.hid hown'; have HGR := Lib.hid hgr; clear hown' hgr hnil hat)
          go_roundw
          case rel =>
            have hfin := HBS.out.trans (below_of_grown HGR.out (by simp; omega) HVO.out)
            have hvl' := hvl.out
            refine ⟨k + 1, _, by omega, by go_num, HOWN.out, by rw [List.length_append, hvl']; rfl, ?_, ?_, hfin⟩
            · intro i hi1 hi
              rw [List.getElem?_append_left (by omega)]
              exact hco.out i hi1 (by omega)
            · intro i hi1 hi
              rw [List.length_append, List.length_singleton] at hi
              by_cases hik : i < k
              · rw [List.getElem?_append_left (by omega)]
                exact hfo.out i hi1 (by omega)
              · obtain rfl : i = k := by omega
                refine ⟨_, ?_, HAT0.out⟩
                rw [List.getElem?_append_right (by omega), hvl']
                simp
          case measure => simp [intOf]; omega
        · obtain rfl : k = m.funs.length := by omega
          have HROW := Lib.hid hrow; have HBW := Lib.hid hbw
          clear hrow hbw hB
          go_wp2
          go_ret
          exact ⟨⟨_, vs, rfl, HROW.out, hvl.out, hco.out, hfo.out⟩, HBW.out⟩

end Go.Proofs.YtjpahjfjpkbcnaaGreat

/- Asking of a module: its name, how many parts, and then each of them. -/
namespace Go.Proofs.YtjpahjfjpkbcnaaGreat
open Go.Proofs Go.RowKit
attribute [local go_sem] Oper.semAt_some

theorem inner117 (v : Value) (w : World) : (Go.method 340 117 v "hearth/term.inner").run Tryz.prog w = .ok (208, v) w := inner_of Tryz.underlying117 (by kernel_rfl) v w

/-- What is bounded in a module, so that each part can be asked. -/
def MdOk (m : Md) : Prop := (∀ d ∈ m.datas, ∀ c ∈ d.cons, ∀ t ∈ c.types, heightY t ≤ 1000) ∧ ∀ f ∈ m.funs, heightY f.dom ≤ 1000 ∧ heightY f.cod ≤ 1000 ∧ heightM f.body ≤ 1000 ∧ okM f.body

def bitsMd (m : Md) : List Bool := m.datas.map refDt ++ m.funs.map refFn
theorem bitsMd_all (m : Md) : (bitsMd m).all id = (m.datas.all refDt && m.funs.all refFn) := by
  unfold bitsMd
  rw [List.all_append, List.all_map, List.all_map]
  rfl
theorem bitsMd_len (m : Md) : (bitsMd m).length = m.datas.length + m.funs.length := by unfold bitsMd; simp

theorem FnAt.keep {n₀ n₁ : Nat} {w w' : World} (hb : Below n₀ w w') (hn : n₀ ≤ n₁) {f : Fn} {v : Value} (h : FnAt n₀ w f v) : FnAt n₁ w' f v := by
  obtain ⟨a0, a1, a2, a3, b0, b1, b2, b3, d0, d1, d2, d3, d4, h1, h2, h3, h4, h5, h6⟩ := h
  exact ⟨a0, a1, a2, a3, b0, b1, b2, b3, d0, d1, d2, d3, d4, h1, h2, h3, TyAt.keep hb hn _ _ h4, TyAt.keep hb hn _ _ h5, TmAt.keep hb hn _ _ h6⟩
theorem FnsAt.keep {n₀ n₁ : Nat} {w w' : World} (hb : Below n₀ w w') (hn : n₀ ≤ n₁) {fs : List Fn} {b o : Nat} (hlt : b < n₀) (h : FnsAt n₀ w fs b o) : FnsAt n₁ w' fs b o := fun i hi => by
  obtain ⟨cs, h1, h2, h3⟩ := h i hi
  exact ⟨cs, h1, fun j hj => (hb.cell (p := ⟨b, _, none⟩) hlt).trans (h2 j hj), FnAt.keep hb hn h3⟩
theorem DtsAt.keep {n₀ n₁ : Nat} {w w' : World} (hb : Below n₀ w w') (hn : n₀ ≤ n₁) {ds : List Dt} {b o : Nat} (hlt : b < n₀) (h : DtsAt n₀ w ds b o) : DtsAt n₁ w' ds b o := fun i hi => by
  obtain ⟨c0, c1, h1, h2, h3⟩ := h i hi
  exact ⟨c0, c1, (hb.cell (p := ⟨b, _, none⟩) hlt).trans h1, (hb.cell (p := ⟨b, _, none⟩) hlt).trans h2, DtAt.keep hb hn h3⟩
theorem MdAt.keep {n₀ n₁ : Nat} {w w' : World} (hb : Below n₀ w w') (hn : n₀ ≤ n₁) {m : Md} {v : Value} (h : MdAt n₀ w m v) : MdAt n₁ w' m v := by
  obtain ⟨dv, fv, h1, h2, h3, h4⟩ := h
  exact ⟨dv, fv, h1, h2, h3.mono hn fun b o hlt hr => DtsAt.keep hb hn hlt hr, h4.mono hn fun b o hlt hr => FnsAt.keep hb hn hlt hr⟩

set_option maxHeartbeats 4000000 in
set_option maxRecDepth 100000 in
theorem askMd_any (m : Md) (v : Value) (w : World) (hv : MdAt w.heap.size w m v) (hok : MdOk m) (hl : m.datas.length ≤ 1000000) (hl2 : m.funs.length ≤ 1000000) :
    Calls Tryz.prog 96 #[.iface 117 v] w fun e w' => AskEnd (refMd m) e ∧ Below w.heap.size w w' := by
  have hvv := hv
  obtain ⟨dv, fv, rfl, htx, hk, hf⟩ := hv
  obtain ⟨a, cap, rfl, hcap, hlc, -⟩ := hk.split
  obtain ⟨a', cap', rfl, hcap', hlc', -⟩ := hf.split
  have a1 : ∀ v w, (Instr.typeAssert (.iface 117 v) 147 117 true).run Tryz.prog w = _ := as_yes Tryz.underlying117
  obtain ⟨WA, hWA⟩ : ∃ W, W = w.alloc (.cells #[.string m.name, .slice a m.datas.length cap, .slice a' m.funs.length cap'] 117) := ⟨_, rfl⟩
  have hbx : WA.heap[w.heap.size]? = some (.cells #[.string m.name, .slice a m.datas.length cap, .slice a' m.funs.length cap'] 117 (0, 0)) := by rw [hWA]; exact heap_alloc_new w _
  have hb0 : Below w.heap.size w WA := by rw [hWA]; exact (Below.refl w.heap.size w).alloc (Nat.le_refl _) _
  have HBX := Lib.hid hbx; have HB0 := Lib.hid hb0; have HV := Lib.hid hvv
  have HR := Lib.hid (show refMd m = (nameB m.name && decide (m.datas.length ≤ 4) && inB m.funs.length 1 5 && (bitsMd m).all id) by rw [bitsMd_all, ← Bool.and_assoc]; rfl)
  obtain ⟨c0, c1, c2⟩ := cells3 hbx
  unfold maxLen at hcap hcap'
  clear hk hf hvv hbx hb0
  cases hg : nameB m.name with
  | false =>
    have e0 : refMd m = false := by rw [HR.out, hg]; rfl
    rw [e0]
    go_enter Tryz.func96, Tryz.ntmps96
    go_upto_region 3 with fail
    rw [← hWA]
    clear hWA
    go_wp2_with fail
    refine (Name_any _ _).mono ?_
    rintro e w1 ⟨rfl, hb1⟩
    rw [hg]
    have HB1 := Lib.hid (HB0.out.trans (hb1.mono HB0.out.size))
    clear hb1
    go_wp2_with fail
    refine (ask_no _).mono ?_
    rintro e w2 ⟨rfl, rfl⟩
    go_wp2
    exact ⟨rfl, .inr ⟨rfl, rfl⟩, HB1.out⟩
  | true =>
  by_cases h4 : m.datas.length ≤ 4
  case neg =>
    have h4' : 4 < (m.datas.length : Int) := by omega
    have e0 : refMd m = false := by rw [HR.out, decide_eq_false h4, Bool.and_false]; rfl
    rw [e0]
    go_enter Tryz.func96, Tryz.ntmps96
    go_upto_region 3 with fail
    rw [← hWA]
    clear hWA
    go_wp2_with fail
    refine (Name_any _ _).mono ?_
    rintro e w1 ⟨rfl, hb1⟩
    rw [hg]
    have HB1 := Lib.hid (HB0.out.trans (hb1.mono HB0.out.size))
    clear c0 c1 c2
    obtain ⟨c0, c1, c2⟩ := cells3 (bget' hb1 HBX.out)
    clear hb1
    go_wp2_with fail
    rw [show decide ((m.datas.length : Int) ≤ 4) = false by simp; omega]
    refine (ask_no _).mono ?_
    rintro e w2 ⟨rfl, rfl⟩
    go_wp2
    exact ⟨rfl, .inr ⟨rfl, rfl⟩, HB1.out⟩
  have h4' : (m.datas.length : Int) ≤ 4 := by omega
  by_cases h1 : 1 ≤ m.funs.length
  case neg =>
    have h1' : (m.funs.length : Int) = 0 := by omega
    have e0 : refMd m = false := by
      rw [HR.out]; unfold inB; simp [show ¬ ((1 : Int) ≤ (m.funs.length : Int)) by omega]
    rw [e0]
    go_enter Tryz.func96, Tryz.ntmps96
    go_upto_region 3 with fail
    rw [← hWA]
    clear hWA
    go_wp2_with fail
    refine (Name_any _ _).mono ?_
    rintro e w1 ⟨rfl, hb1⟩
    rw [hg]
    have HB1 := Lib.hid (HB0.out.trans (hb1.mono HB0.out.size))
    clear c0 c1 c2
    obtain ⟨c0, c1, c2⟩ := cells3 (bget' hb1 HBX.out)
    clear hb1
    go_wp2_with fail
    refine (ask_yes _).mono ?_
    rintro e w2 ⟨rfl, rfl⟩
    go_wp2_with fail
    refine (ask_no _).mono ?_
    rintro e w2 ⟨rfl, rfl⟩
    go_wp2
    exact ⟨rfl, .inr ⟨rfl, rfl⟩, HB1.out⟩
  by_cases h5 : m.funs.length ≤ 5
  case neg =>
    have h1' : (1 : Int) ≤ (m.funs.length : Int) := by omega
    have h5' : 5 < (m.funs.length : Int) := by omega
    have e0 : refMd m = false := by
      rw [HR.out]; unfold inB; simp [show ¬ ((m.funs.length : Int) ≤ 5) by omega]
    rw [e0]
    go_enter Tryz.func96, Tryz.ntmps96
    go_upto_region 3 with fail
    rw [← hWA]
    clear hWA
    go_wp2_with fail
    refine (Name_any _ _).mono ?_
    rintro e w1 ⟨rfl, hb1⟩
    rw [hg]
    have HB1 := Lib.hid (HB0.out.trans (hb1.mono HB0.out.size))
    clear c0 c1 c2
    obtain ⟨c0, c1, c2⟩ := cells3 (bget' hb1 HBX.out)
    clear hb1
    go_wp2_with fail
    refine (ask_yes _).mono ?_
    rintro e w2 ⟨rfl, rfl⟩
    go_wp2_with fail
    rw [show decide ((m.funs.length : Int) ≤ 5) = false by simp; omega]
    refine (ask_no _).mono ?_
    rintro e w2 ⟨rfl, rfl⟩
    go_wp2
    exact ⟨rfl, .inr ⟨rfl, rfl⟩, HB1.out⟩
  have h1' : (1 : Int) ≤ (m.funs.length : Int) := by omega
  have h5' : (m.funs.length : Int) ≤ 5 := by omega
  have HR2 := Lib.hid (show refMd m = (bitsMd m).all id by rw [HR.out, hg]; unfold inB; simp [show (1 : Int) ≤ (m.funs.length : Int) by omega, show (m.funs.length : Int) ≤ 5 by omega, h4])
  go_enter Tryz.func96, Tryz.ntmps96
  go_upto_region 3 with fail
  rw [← hWA]
  clear hWA
  go_wp2_with fail
  refine (Name_any _ _).mono ?_
  rintro e w1 ⟨rfl, hb1⟩
  rw [hg]
  have HB1 := Lib.hid (HB0.out.trans (hb1.mono HB0.out.size))
  clear c0 c1 c2
  obtain ⟨c0, c1, c2⟩ := cells3 (bget' hb1 HBX.out)
  clear hb1
  go_wp2_with fail
  refine (ask_yes _).mono ?_
  rintro e w3 ⟨rfl, rfl⟩
  go_wp2_with fail
  refine (ask_yes _).mono ?_
  rintro e w3 ⟨rfl, rfl⟩
  have hin := inner117
  go_wp2_with fail
  refine (modInner_any m _ w1 (MdAt.keep HB1.out HB1.out.size HV.out) hl hl2).mono ?_
  rintro e w4 ⟨⟨v', vs, rfl, hrow, hvl, hda, hfu⟩, hb4⟩
  have HB4 := Lib.hid (HB1.out.trans (hb4.mono HB1.out.size))
  have hcalls : ∀ i (h : i < (bitsMd m).length), PieceAt w4 (bitsMd m)[i] (vs.getD i .nilIface) := by
    intro i h V hV
    rw [bitsMd_len] at h
    rw [List.getD_eq_getElem?_getD]
    have hbv := hb4.trans (hV.mono hb4.size)
    by_cases hi : i < m.datas.length
    · obtain ⟨dv, hc2, hc3⟩ := hda i hi (by omega)
      rw [hc2]
      have e1 : ∀ h', (bitsMd m)[i]'(h') = refDt m.datas[i] := by
        intro h'
        simp only [bitsMd]
        rw [List.getElem_append_left (by simpa using hi), List.getElem_map]
      rw [e1]
      exact askDt_any _ _ _ (DtAt.keep hbv hbv.size hc3) (hok.1 _ (List.getElem_mem hi))
    · obtain ⟨fv, hc2, hc3⟩ := hfu (i - m.datas.length) (by omega) (by omega)
      rw [show m.datas.length + (i - m.datas.length) = i by omega] at hc2
      rw [hc2]
      have e1 : ∀ h', (bitsMd m)[i]'(h') = refFn (m.funs[i - m.datas.length]'(by omega)) := by
        intro h'
        simp only [bitsMd]
        rw [List.getElem_append_right (by simpa using hi), List.getElem_map]
        simp
      rw [e1]
      obtain ⟨k1, k2, k3, k4⟩ := hok.2 _ (List.getElem_mem (show i - m.datas.length < m.funs.length by omega))
      exact askFun_any _ _ _ (FnAt.keep hbv hbv.size hc3) k1 k2 k3 k4
  have HC := Lib.hid hcalls; have HROW := Lib.hid hrow
  have hbl : (bitsMd m).length = m.datas.length + m.funs.length := bitsMd_len m
  have hbm : ((bitsMd m).length : Int) ≤ 1000 := by omega
  have hvl2 : vs.length = (bitsMd m).length := by omega
  obtain ⟨ra, rc, rfl⟩ := slice_of_row hrow
  clear hb4 hin hda hfu hcalls hrow c0 c1 c2 hvl hok hl hl2
  rw [← hbl] at HROW
  have hnn : (m.datas.length + m.funs.length) = (bitsMd m).length := hbl.symm
  rw [hnn]
  generalize bitsMd m = bits at *
  clear hnn hbl
  go_wp2
  go_loopw [115] (fun i wr => ∃ k : Nat, k ≤ bits.length ∧ i = .int .i64 k ∧ Hid (bits.all id = (bits.drop k).all id) ∧ Below w4.heap.size w4 wr) (fun i _ => bits.length - (intOf i).toNat)
  case atStart => exact ⟨0, Nat.zero_le _, rfl, rfl, Below.refl _ _⟩
  case round =>
    obtain ⟨k, hk, rfl, HP, hB⟩ := hrel
    by_cases hlt : k < bits.length
    · have hlt' : (k : Int) < (bits.length : Int) := by omega
      obtain ⟨g, cap', hsl, hbg, hgs, hcell, hvl'⟩ := row_get HROW.out hlt
      simp only [Value.slice.injEq, true_and] at hsl
      obtain ⟨rfl, rfl⟩ := hsl
      have q0 : wr.cell? ⟨g, k, none⟩ = some (vs.getD k .nilIface) := by
        rw [hB.cell (p := ⟨g, _, none⟩) hgs, hcell, List.getD_eq_getElem?_getD, List.getElem?_eq_getElem (by omega)]; rfl
      have hd : (bits.drop k).all id = (bits[k] && (bits.drop (k + 1)).all id) := by rw [List.drop_eq_getElem_cons hlt, List.all_cons]; rfl
      have HB := Lib.hid hB; have HCK := Lib.hid (HC.out k hlt wr hB)
      generalize vs.getD k .nilIface = pv at *
      clear hB hcell
      cases hx : bits[k] with
      | true =>
        rw [hx, Bool.true_and] at hd
        have HD := Lib.hid hd
        clear hd
        go_wp2_with fail
        refine HCK.out.mono ?_
        rintro e w5 ⟨he, hb5⟩
        rw [hx] at he
        obtain ⟨v5, rfl⟩ := he.yes rfl
        have HB5 := Lib.hid (HB.out.trans (hb5.mono HB.out.size))
        clear he hb5 q0
        go_wp2
        go_roundw
        case rel => exact ⟨k + 1, by omega, by go_num, HP.out.trans HD.out, HB5.out⟩
        case measure => simp [intOf]; omega
      | false =>
        rw [hx, Bool.false_and] at hd
        have HD := Lib.hid hd
        clear hd
        go_wp2_with fail
        refine HCK.out.mono ?_
        rintro e w5 ⟨he, hb5⟩
        rw [hx] at he
        have he' := he.no rfl
        subst he'
        have HB5 := Lib.hid (HB.out.trans (hb5.mono HB.out.size))
        clear he hb5 q0
        go_wp2
        exact ⟨rfl, .inr ⟨HR2.out.trans (HP.out.trans HD.out), rfl⟩, HB4.out.trans (HB5.out.mono HB4.out.size)⟩
    · obtain rfl : k = bits.length := by omega
      have HB := Lib.hid hB
      clear hB
      go_wp2
      go_end0
      exact ⟨.inl ⟨HR2.out.trans (HP.out.trans (by simp)), _, rfl⟩, HB4.out.trans (HB.out.mono HB4.out.size)⟩

/-! ### CheckModule -/
theorem ckMod_any (m : Md) (c0 c1 c2 : Value) (B : Nat) (n₀ : Nat) (w : World) (hv : MdAt n₀ w m (.agg #[c0, c1, c2])) (hn : n₀ ≤ w.heap.size) (hB : w.heap[B]? = some (.cells #[c0, c1, c2] 56 (0, 0))) (hok : MdOk m) (hl : m.datas.length ≤ 1000000) (hl2 : m.funs.length ≤ 1000000) :
    Calls Tryz.prog 95 #[.pointer (some ⟨B, 0, none⟩)] w fun e w' => AskEnd (refMd m) e ∧ Below w.heap.size w w' := by
  obtain ⟨d0, d1, d2⟩ := cells3 hB
  have HC := Lib.hid (askMd_any m _ w (MdAt.keep (Below.refl _ _) hn hv) hok hl hl2)
  clear hv hB
  go_enter Tryz.func95, Tryz.ntmps95
  go_wp2_with fail
  refine HC.out.mono ?_
  rintro e w1 ⟨he, hb⟩
  have HB := Lib.hid hb; clear hb
  rcases he with ⟨h1, v, rfl⟩ | ⟨h1, rfl⟩
  · go_wp2
    go_end0
    exact ⟨.inl ⟨h1, _, rfl⟩, HB.out⟩
  · go_wp2
    exact ⟨rfl, .inr ⟨h1, rfl⟩, HB.out⟩

set_option maxHeartbeats 1000000 in
theorem CheckModule_any (m : Md) (v : Value) (w : World) (hv : MdAt w.heap.size w m v) (hok : MdOk m) (hl : m.datas.length ≤ 1000000) (hl2 : m.funs.length ≤ 1000000) :
    Calls Tryz.prog 35 #[v] w fun e w' => e = .returned (.int .i64 (errOf (refMd m))) ∧ Below w.heap.size w w' := by
  have hvv := hv
  obtain ⟨dv, fv, rfl, htx, hk, hf⟩ := hv
  obtain ⟨a, cap, rfl, hcap, hlc, -⟩ := hk.split
  obtain ⟨a', cap', rfl, hcap', hlc', -⟩ := hf.split
  have hin : ∀ w1, Below (w.alloc (.cells #[.string m.name, .slice a m.datas.length cap, .slice a' m.funs.length cap'] 56)).heap.size (w.alloc (.cells #[.string m.name, .slice a m.datas.length cap, .slice a' m.funs.length cap'] 56)) w1 →
      Calls Tryz.prog 95 #[.pointer (some ⟨w.heap.size, 0, none⟩)] w1 fun e w' => AskEnd (refMd m) e ∧ Below w1.heap.size w1 w' := fun w1 hb =>
    ckMod_any m _ _ _ w.heap.size w.heap.size w1 (MdAt.keep (((Below.refl _ w).alloc (Nat.le_refl _) _).trans (hb.mono (by simp))) (Nat.le_refl _) hvv) (by have := hb.size; simp at this; omega) (bget' hb (heap_alloc_new w _)) hok hl hl2
  cases hb : refMd m
  · have hf := formed_no 95 #[.pointer (some ⟨w.heap.size, 0, none⟩)] (w.alloc (.cells #[.string m.name, .slice a m.datas.length cap, .slice a' m.funs.length cap'] 56)) (enters_of Tryz.func95 (by kernel_rfl) rfl)
      (fun w1 h1 _ => (hin w1 h1).mono fun e w' h => ⟨h.1.no hb, h.2⟩)
    have HF := Lib.hid hf; clear hf hin hb hk
    go_enter Tryz.func35, Tryz.ntmps35
    go_wp2_with fail
    refine HF.out.mono ?_
    rintro e w2 ⟨rfl, hb2⟩
    go_wp2
    go_ret
    exact ⟨rfl, ((Below.refl _ _).alloc (Nat.le_refl _) _).trans (hb2.mono (by simp))⟩
  · have hf := formed_yes 95 #[.pointer (some ⟨w.heap.size, 0, none⟩)] (w.alloc (.cells #[.string m.name, .slice a m.datas.length cap, .slice a' m.funs.length cap'] 56)) (enters_of Tryz.func95 (by kernel_rfl) rfl)
      (fun w1 h1 _ => (hin w1 h1).mono fun e w' h => ⟨h.1.yes hb, h.2⟩)
    have HF := Lib.hid hf; clear hf hin hb hk
    go_enter Tryz.func35, Tryz.ntmps35
    go_wp2_with fail
    refine HF.out.mono ?_
    rintro e w2 ⟨rfl, hb2⟩
    go_wp2
    go_ret
    exact ⟨rfl, ((Below.refl _ _).alloc (Nat.le_refl _) _).trans (hb2.mono (by simp))⟩
end Go.Proofs.YtjpahjfjpkbcnaaGreat
