/- TermFrees is true for every term, and changes it in nothing: the names that are free in a term, or the error, are as the document says. No condition. -/
import Derived.Test.YtjpahjfjpkbcnaaGreatG12
import Derived.Test.YtjpahjfjpkbcnaaGreatG10
import Derived.Test.YtjpahjfjpkbcnaaGreatRows
import Derived.Test.YtjpahjfjpkbcnaaGreatG11

/- TermFrees: its walk. -/
namespace Go.Proofs.YtjpahjfjpkbcnaaGreat
open Go.Proofs Go.RowKit

theorem sameL_refl : ∀ l : List ByteArray, sameL l l = true
  | [] => rfl
  | x :: l => by unfold sameL; rw [sameL_refl l]; simp
theorem TmAt.box {T : Tm} {w W : World} {v : Value} (h : TmAt w.heap.size w T v) (hb : Below w.heap.size w W) : TmAt W.heap.size W T v := TmAt.keep hb hb.size _ _ h

set_option maxHeartbeats 2000000 in
set_option maxRecDepth 100000 in
theorem TermFrees_any (T : Tm) (v : Value) (w : World) (hv : TmAt w.heap.size w T v) :
    Calls Tryz.prog 8 #[v] w fun e w' => e = .returned (.bool true) ∧ Below w.heap.size w w' := by
  obtain ⟨a, cap, a', cap', rfl, -⟩ := hv.parts
  have hb0 := (Below.refl w.heap.size w).alloc (Nat.le_refl _) (.cells #[.int .i64 T.op, .int .i64 T.n, .string T.text, .slice a T.kids.length cap, .slice a' T.pats.length cap'] 32)
  have hbx := heap_alloc_new w (.cells #[.int .i64 T.op, .int .i64 T.n, .string T.text, .slice a T.kids.length cap, .slice a' T.pats.length cap'] 32)
  have HV := Lib.hid hv
  have HC1 := Lib.hid (SmallTerm_any T _ _ (hv.box hb0))
  have HB0 := Lib.hid hb0
  obtain ⟨c0, c1, c2, c3, c4⟩ := cells5 hbx
  clear hv hb0
  cases hsm : SmallTermB T with
  | false =>
    have HSM := Lib.hid hsm; clear hsm
    go_enter Tryz.func8, Tryz.ntmps8
    go_wp2_with fail
    refine HC1.out.mono ?_
    rintro e w1 ⟨rfl, hb1⟩
    rw [HSM.out]
    have HB1 := Lib.hid (HB0.out.trans (hb1.mono HB0.out.size))
    clear hb1
    go_wp2_with fail
    refine (known_any w1).mono ?_
    rintro e w2 ⟨rfl, hb2⟩
    go_wp2
    go_ret
    exact ⟨rfl, HB1.out.trans (hb2.mono HB1.out.size)⟩
  | true =>
  obtain ⟨hokm, hh, hlen⟩ := SmallTerm_ok hsm
  have HSM := Lib.hid hsm; have HOKM := Lib.hid hokm
  clear hsm hokm
  go_enter Tryz.func8, Tryz.ntmps8
  go_wp2_with fail
  refine HC1.out.mono ?_
  rintro e w1 ⟨rfl, hb1⟩
  rw [HSM.out]
  have HB1 := Lib.hid (HB0.out.trans (hb1.mono HB0.out.size))
  have hbx1 := bget' hb1 hbx
  have HC2 := Lib.hid (Free_any T _ w1 (HV.out.box HB1.out) hh HOKM.out)
  clear c0 c1 c2 c3 c4 hb1 hbx HC1
  obtain ⟨c0, c1, c2, c3, c4⟩ := cells5 hbx1
  go_wp2_with fail
  refine HC2.out.mono ?_
  rintro e w2 ⟨hfe, hb2⟩
  have HB2 := Lib.hid (HB1.out.trans (hb2.mono HB1.out.size))
  have hbx2 := bget' hb2 hbx1
  have HC3 := Lib.hid (Term_any T _ w2 (HV.out.box HB2.out) HOKM.out)
  clear c0 c1 c2 c3 c4 hb2 hbx1 HC2
  obtain ⟨c0, c1, c2, c3, c4⟩ := cells5 hbx2
  unfold FreeEnd at hfe
  cases htb : termB T with
  | false =>
    rw [htb, if_neg (by simp)] at hfe
    subst hfe
    have HTB := Lib.hid ((refTermB_eq T).trans htb)
    clear htb
    go_wp2_with fail
    refine HC3.out.mono ?_
    rintro e w3 ⟨rfl, hb3⟩
    rw [HTB.out]
    have HB3 := Lib.hid (HB2.out.trans (hb3.mono HB2.out.size))
    clear c0 c1 c2 c3 c4 hb3 hbx2 HC3
    go_wp2_with fail
    refine (known_any w3).mono ?_
    rintro e w4 ⟨rfl, hb4⟩
    go_wp2
    go_ret
    exact ⟨rfl, HB3.out.trans (hb4.mono HB3.out.size)⟩
  | true =>
    rw [htb, if_pos rfl] at hfe
    obtain ⟨v2, rfl, hv2⟩ := hfe
    have hokn := termB_okN htb HOKM.out
    have hnb : nodesB T = true := by
      have h := (refTermB_eq T).trans htb
      unfold refTermB at h
      rw [Bool.and_eq_true] at h
      exact h.2
    have hokf : okF T := okF_of T 1 HOKM.out (by rw [← nodesB_parts]; exact hnb)
    have hre := rfree_eq hokn
    have hfl : (freeL T).length ≤ 1000000 := by rw [← hre]; have := rfree_len T 1; omega
    obtain ⟨va, vc, rfl⟩ := hv2.split
    have HTB := Lib.hid ((refTermB_eq T).trans htb); have HOKF := Lib.hid hokf; have HRE := Lib.hid hre
    have hv2' : SlIn (fun b => b < w2.heap.size) (.slice va (freeL T).length vc) (freeL T).length fun b o => StrsAt w2 (freeL T) b o := hv2.mono (fun b h => h.2) fun _ _ _ h => h
    have HV2 := Lib.hid hv2'
    clear htb hokn hnb hokf hre hv2 hv2'
    go_wp2_with fail
    refine HC3.out.mono ?_
    rintro e w3 ⟨rfl, hb3⟩
    rw [HTB.out]
    have HB3 := Lib.hid (HB2.out.trans (hb3.mono HB2.out.size))
    have hbx3 := bget' hb3 hbx2
    have HC4 := Lib.hid (refFree_any T _ w3 (HV.out.box HB3.out) HOKF.out (by omega))
    have HB23 := Lib.hid hb3
    clear c0 c1 c2 c3 c4 hb3 hbx2 HC3
    obtain ⟨c0, c1, c2, c3, c4⟩ := cells5 hbx3
    go_wp2_with fail
    refine HC4.out.mono ?_
    rintro e w4 ⟨⟨v4, rfl, hv4⟩, hb4⟩
    have HB4 := Lib.hid (HB3.out.trans (hb4.mono HB3.out.size))
    have hb24 := HB23.out.trans (hb4.mono HB23.out.size)
    have hs1 : SlV w4.heap.size (.slice va (freeL T).length vc) (freeL T).length fun b o => StrsAt w4 (freeL T) b o := (HV2.out.mono (B' := fun b => b < w2.heap.size) (R' := fun b o => StrsAt w4 (freeL T) b o) (fun b h => h) fun b o h hs => StrsAt.keep hb24 _ _ _ h hs).to (fun b h => Nat.lt_of_lt_of_le h hb24.size) fun _ _ h => h
    rw [HRE.out] at hv4
    have hs2 : SlV w4.heap.size v4 (freeL T).length fun b o => StrsAt w4 (freeL T) b o := hv4.to (fun b h => h) fun _ _ h => h
    have HC5 := Lib.hid (SameNames_any (freeL T) (freeL T) _ v4 w4 hs1 hs2 hfl)
    clear c0 c1 c2 c3 c4 hb4 hbx3 HC4 hb24 hs1 hs2 hv4
    go_wp2_with fail
    refine HC5.out.mono ?_
    rintro e w5 ⟨rfl, hb5⟩
    rw [sameL_refl]
    have HB5 := Lib.hid (HB4.out.trans (hb5.mono HB4.out.size))
    clear hb5 HC5
    go_wp2_with fail
    refine (known_any w5).mono ?_
    rintro e w6 ⟨rfl, hb6⟩
    go_wp2
    go_ret
    exact ⟨rfl, HB5.out.trans (hb6.mono HB5.out.size)⟩

end Go.Proofs.YtjpahjfjpkbcnaaGreat

/- TermFrees is true for every term, and changes it in nothing: the names that are free in a term, or the error, are as the document says. No condition. -/
namespace Go.Proofs.YtjpahjfjpkbcnaaGreat
open Go.ChangeShapes Go.WideShapes Go.ChangeAt Go.RowKit
open Go.ChangeMaps (open_string shut_string)

set_option maxRecDepth 100000 in
theorem termFrees_lifted (os : Os) (started : os.Started) (H : Type) (enc : TypeId × Value → H) :
    ReturnsInHanded {} Tryz.checked os 8 .any (Rows.termFreesSpec.pre6 enc Tryz.prog Tryz.f8 Rows.termFreesRow.domain false) (Rows.termFreesSpec.post enc Tryz.prog Tryz.f8 false true false false) := by
  refine returnsInHanded_of_change (C := Tryz.checked) Tryz.own started (by kernel_rfl) Tryz.func8
    (ChangeSpec.witness6 (enc := enc) (C := Tryz.checked) false ⟨#[], #[.agg #[.int .i64 0, .int .i64 0, .string ⟨#[]⟩, .slice none 0 0, .slice none 0 0]], []⟩ 8 (by kernel_rfl) (by kernel_rfl) (by kernel_rfl) (by kernel_rfl)) ?_
  intro W base args ds gs before hval0 hW hcnd _
  have hval : ∀ (j : Nat) t v, Tryz.f8.params[j]? = some t → args[j]? = some v → Value.okWide Tryz.prog W .any base t v := hval0
  have hW' := hW
  obtain ⟨p, q, hA0, hV, rfl, hfz, hnd⟩ := hW
  have hA : DataW.TrodAll enc Tryz.prog W 0 (fun _ => true) true Tryz.f8.params.toList args.toList ds p := hA0
  rw [Tryz.params8] at hA hval
  obtain ⟨v0, d0, rfl, rfl, h0⟩ := trodAll_one hA
  obtain ⟨rfl, rfl⟩ := trodVars_none hV
  have h0k := h0
  obtain ⟨T0, hT0⟩ := open_tm (hval 0 32 v0 rfl rfl) h0
  clear hA0 hval0
  simp only [List.append_nil] at hW'
  have hlt : ∀ x ∈ p, x.block < W.heap.size := fun x hx => by simpa using hW'.lt x hx
  refine (TermFrees_any T0 v0 W hT0).mono fun e W' ⟨he, hnx⟩ => ?_
  subst he
  refine ⟨_, rfl, _, _, _, [] ++ [], p, [], hW', ?_, ?_, rfl, hnx.frame _, fun h => by cases h⟩
  · exact trodAll_mk1 (shut_bool Tryz.underlying4 true)
  · exact trodAll_mk1 (Below.trod Tryz.laidOut (by kernel_rfl) (of_decide_eq_true (by kernel_rfl)) h0k hnx (fun x hx => hlt x (hx)))

theorem termFrees_holds : Rows.TermFreesSaid :=
  OpenClaim.holds_of_wide 8 Tryz.f8 rfl rfl rfl rfl rfl rfl rfl ⟨rfl, rfl, rfl, rfl, rfl⟩ rfl rfl rfl rfl rfl (by kernel_rfl) Tryz.func8 (by kernel_rfl)
    (of_decide_eq_true (by kernel_rfl)) (by unfold Func.isWrapper; first | (rw [if_pos (by decide +kernel)]; kernel_rfl) | (rw [if_neg (by decide +kernel)]; exact ⟨rfl, rfl⟩))
    (fun os started H enc _ => termFrees_lifted os started H enc)

end Go.Proofs.YtjpahjfjpkbcnaaGreat
