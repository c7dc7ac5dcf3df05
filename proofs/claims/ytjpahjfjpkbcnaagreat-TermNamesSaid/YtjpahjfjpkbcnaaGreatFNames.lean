/- TermNames is true for every string and every list of strings, and changes neither: which strings are names and great names, and the first name that is none of some, are as the document says. No condition. -/
import Derived.Test.YtjpahjfjpkbcnaaGreatG10
import Derived.Test.YtjpahjfjpkbcnaaGreatRows
import Derived.ProofKit
import Derived.SizedLaws

/- TermNames: its walk. -/
namespace Go.Proofs.YtjpahjfjpkbcnaaGreat
open Go.Proofs Go.RowKit

def shortB (l : List ByteArray) : Bool := (l.take 100).all (fun s => decide (s.size ≤ 30)) && decide (l.length ≤ 90)

set_option maxHeartbeats 1000000 in
theorem short_any (l : List ByteArray) (v : Value) (w : World) (hv : SsAt w.heap.size w l v) :
    Calls Tryz.prog 13 #[v] w fun e w' => e = .returned (.bool (shortB l)) ∧ Below w.heap.size w w' := by
  obtain ⟨a, cap, rfl, hcap, hlc, hka⟩ := SlV.split hv
  clear hv
  unfold maxLen at hcap
  have HKA := Lib.hid hka; clear hka
  go_enter Tryz.func13, Tryz.ntmps13
  go_wp2
  go_loop [3] (fun i => ∃ k : Nat, k ≤ l.length ∧ k ≤ 100 ∧ i = .int .i64 k ∧ Hid (∀ (j : Nat) (h : j < l.length), j < k → l[j].size ≤ 30)) (fun i => 100 - (intOf i).toNat)
  case atStart => exact ⟨0, Nat.zero_le _, Nat.zero_le _, rfl, fun _ _ h => absurd h (Nat.not_lt_zero _)⟩
  case round =>
    obtain ⟨k, hk, hk1, rfl, HP⟩ := hrel
    by_cases hlt : k < l.length
    · by_cases h100 : k < 100
      · have hlt' : (k : Int) < (l.length : Int) := by omega
        have h100' : (k : Int) < 100 := by omega
        obtain ⟨b, o, rfl, hbn, hss⟩ := HKA.out (by omega)
        obtain ⟨hg, hgs⟩ := StrsAt.get l b o hss k hlt
        unfold maxLen at hgs
        by_cases h30 : l[k].size ≤ 30
        · have h30' : ((l[k].size : Nat) : Int) ≤ 30 := by omega
          go_wp2
          go_round
          case rel => exact ⟨k + 1, by omega, by omega, by go_num, fun j h hj => by
            rcases Nat.lt_or_ge j k with h' | h'
            · exact HP.out j h h'
            · obtain rfl : j = k := by omega
              exact h30⟩
          case measure => simp [intOf]; omega
        · have h30' : 30 < ((l[k].size : Nat) : Int) := by omega
          have hr : shortB l = false := by
            unfold shortB
            rw [show (l.take 100).all (fun s => decide (s.size ≤ 30)) = false from List.all_eq_false.2 ⟨l[k], List.mem_take_iff_getElem.2 ⟨k, by omega, rfl⟩, by simpa using h30⟩]
            rfl
          have HR := Lib.hid hr; clear hr
          go_wp2
          go_ret
          exact ⟨ret_bool HR.out.symm, Below.refl _ _⟩
      · have hlt' : (k : Int) < (l.length : Int) := by omega
        have h100' : ¬ ((k : Int) < 100) := by omega
        have hr : shortB l = false := by
          unfold shortB
          rw [show decide (l.length ≤ 90) = false from decide_eq_false (by omega), Bool.and_false]
        have HR := Lib.hid hr; clear hr
        have h90 : 90 < (l.length : Int) := by omega
        go_wp2
        go_ret
        exact ⟨ret_bool (by rw [HR.out]; simp; omega), Below.refl _ _⟩
    · have hlt' : ¬ ((k : Int) < (l.length : Int)) := by omega
      have hr : shortB l = decide (l.length ≤ 90) := by
        unfold shortB
        rw [show (l.take 100).all (fun s => decide (s.size ≤ 30)) = true from List.all_eq_true.2 fun x hx => by
          obtain ⟨j, hj, rfl⟩ := List.mem_take_iff_getElem.1 hx
          simpa using HP.out j (by omega) (by omega), Bool.true_and]
      have HR := Lib.hid hr; clear hr
      go_wp2
      go_ret
      exact ⟨ret_bool (by rw [HR.out, Bool.eq_iff_iff]; simp; omega), Below.refl _ _⟩

set_option maxHeartbeats 1000000 in
set_option maxRecDepth 10000 in
theorem TermNames_any (s : ByteArray) (l : List ByteArray) (v : Value) (w : World) (hv : SsAt w.heap.size w l v) (hsz : s.size ≤ maxLen) :
    Calls Tryz.prog 3 #[.string s, v] w fun e w' => e = .returned (.bool true) ∧ Below w.heap.size w w' := by
  have HV := Lib.hid hv; clear hv
  unfold maxLen at hsz
  by_cases h30 : s.size ≤ 30
  · have h30' : ((s.size : Nat) : Int) ≤ 30 := by omega
    cases hsh : shortB l
    · go_enter Tryz.func3, Tryz.ntmps3
      go_wp2_with fail
      refine (short_any l v w HV.out).mono ?_
      rintro e w1 ⟨rfl, hb1⟩
      rw [hsh]
      go_wp2_with fail
      refine (known_any w1).mono ?_
      rintro e w2 ⟨rfl, hb2⟩
      go_wp2
      go_ret
      exact ⟨rfl, hb1.trans (hb2.mono hb1.size)⟩
    · have hlen : l.length ≤ 90 := by
        unfold shortB at hsh
        simp only [Bool.and_eq_true, decide_eq_true_eq] at hsh
        exact hsh.2
      have HL := Lib.hid hlen; clear hlen
      have HSH := Lib.hid hsh; clear hsh
      go_enter Tryz.func3, Tryz.ntmps3
      go_wp2_with fail
      refine (short_any l v w HV.out).mono ?_
      rintro e w1 ⟨rfl, hb1⟩
      rw [HSH.out]
      have HB1 := Lib.hid hb1; clear hb1
      go_wp2_with fail
      refine (Name_any s w1).mono ?_
      rintro e w2 ⟨rfl, hb2⟩
      have HB2 := Lib.hid (HB1.out.trans (hb2.mono HB1.out.size)); clear hb2 HB1
      go_wp2_with fail
      refine (refName_any s w2 (by unfold maxLen; omega)).mono ?_
      rintro e w3 ⟨rfl, hb3⟩
      have HB3 := Lib.hid (HB2.out.trans (hb3.mono HB2.out.size)); clear hb3 HB2
      go_wp2_with fail
      refine (Great_any s w3).mono ?_
      rintro e w4 ⟨rfl, hb4⟩
      have HB4 := Lib.hid (HB3.out.trans (hb4.mono HB3.out.size)); clear hb4 HB3
      go_wp2_with fail
      refine (refGreat_any s w4 (by unfold maxLen; omega)).mono ?_
      rintro e w5 ⟨rfl, hb5⟩
      have HB5 := Lib.hid (HB4.out.trans (hb5.mono HB4.out.size)); clear hb5 HB4
      go_wp2_with fail
      refine (Fresh_any l v w5 (HV.out.keep HB5.out HB5.out.size) (by have := HL.out; omega)).mono ?_
      rintro e w6 ⟨rfl, hb6⟩
      have HB6 := Lib.hid (HB5.out.trans (hb6.mono HB5.out.size)); clear hb6 HB5
      go_wp2_with fail
      refine (refFresh_any l v w6 (HV.out.keep HB6.out HB6.out.size) (by have := HL.out; omega)).mono ?_
      rintro e w7 ⟨rfl, hb7⟩
      have HB7 := Lib.hid (HB6.out.trans (hb7.mono HB6.out.size)); clear hb7 HB6
      go_wp2_with fail
      refine (known_any w7).mono ?_
      rintro e w8 ⟨rfl, hb8⟩
      have HB8 := Lib.hid (HB7.out.trans (hb8.mono HB7.out.size)); clear hb8 HB7
      go_wp2
      go_ret
      exact ⟨rfl, HB8.out⟩
  · have h30' : 30 < ((s.size : Nat) : Int) := by omega
    go_enter Tryz.func3, Tryz.ntmps3
    go_wp2_with fail
    refine (known_any w).mono ?_
    rintro e w1 ⟨rfl, hb1⟩
    go_wp2
    go_ret
    exact ⟨rfl, hb1⟩

end Go.Proofs.YtjpahjfjpkbcnaaGreat

/- TermNames is true for every string and every list of strings, and changes neither: which strings are names and great names, and the first name that is none of some, are as the document says. No condition. -/
namespace Go.Proofs.YtjpahjfjpkbcnaaGreat
open Go.ChangeShapes Go.WideShapes Go.ChangeAt Go.RowKit
open Go.ChangeMaps (open_string shut_string)

theorem Tryz.own : ownKnob Tryz.prog.godebug = none := by kernel_rfl
theorem Tryz.laidOut : laidOutB Tryz.prog = true := by kernel_rfl
theorem Tz.cells9 : Tryz.prog.cellsOf 9 = 1 := by kernel_rfl

theorem strsAt_of {w : World} {b : Nat} : ∀ (ss : List ByteArray) (o : Nat), (∀ i (h : i < ss.length), w.cell? ⟨b, o + i, none⟩ = some (.string ss[i])) → (∀ s ∈ ss, s.size ≤ maxLen) → StrsAt w ss b o
  | [], _, _, _ => trivial
  | s :: ss, o, h, hs => ⟨⟨h 0 (Nat.succ_pos _), hs s List.mem_cons_self⟩, strsAt_of (b := b) ss (o + 1) (fun i hi => by
      have := h (i + 1) (by simpa using hi)
      rw [show o + 1 + i = o + (i + 1) by omega]
      simpa using this) fun x hx => hs x (List.mem_cons_of_mem _ hx)⟩

set_option maxRecDepth 100000 in
theorem names_lifted (os : Os) (started : os.Started) (H : Type) (enc : TypeId × Value → H) :
    ReturnsInHanded {} Tryz.checked os 3 .any (Rows.termNamesSpec.pre6 enc Tryz.prog Tryz.f3 Rows.termNamesRow.domain false) (Rows.termNamesSpec.post enc Tryz.prog Tryz.f3 false true false false) := by
  refine returnsInHanded_of_change (C := Tryz.checked) Tryz.own started (by kernel_rfl) Tryz.func3
    (ChangeSpec.witness6 (enc := enc) (C := Tryz.checked) false ⟨#[], #[.string ⟨#[]⟩, .slice none 0 0], []⟩ 8 (by kernel_rfl) (by kernel_rfl) (by kernel_rfl) (by kernel_rfl)) ?_
  intro W base args ds gs before hval0 hW hcnd _
  have hval : ∀ (j : Nat) t v, Tryz.f3.params[j]? = some t → args[j]? = some v → Value.okWide Tryz.prog W .any base t v := hval0
  have hW' := hW
  obtain ⟨p, q, hA0, hV, rfl, hfz, hnd⟩ := hW
  have hA : DataW.TrodAll enc Tryz.prog W 0 (fun _ => true) true Tryz.f3.params.toList args.toList ds p := hA0
  rw [Tryz.params3] at hA hval
  obtain ⟨v0, v1, d0, d1, p0, p1, rfl, rfl, rfl, h0, h1⟩ := trodAll_two hA
  obtain ⟨rfl, rfl⟩ := trodVars_none hV
  have h0k := h0
  have h1k := h1
  obtain ⟨s, rfl, -, -, hsm⟩ := open_string Tryz.underlying9 (hval 0 9 v0 rfl rfl) h0
  clear hA0 hval0
  simp only [List.append_nil] at hW'
  have hlt : ∀ x ∈ p0 ++ p1, x.block < W.heap.size := fun x hx => by simpa using hW'.lt x hx
  have hss : ∃ l, SsAt W.heap.size W l v1 := by
    obtain ⟨fuel, hf⟩ := h1
    obtain ⟨a0, len, cap, rfl⟩ := okWide_slice Tryz.underlying22 (hval 1 22 v1 rfl rfl)
    rcases open_strings Tryz.underlying22 Tryz.underlying9 Tz.cells9 hf with ⟨hcs, hx⟩ | ⟨a, len', cap', ss, hcs, _, hl, hm, hz, hx, hcell, hws⟩
    · simp [Value.cells] at hcs
      obtain ⟨rfl, rfl, rfl⟩ := hcs
      exact ⟨[], .inl ⟨rfl, none, 0, rfl, Nat.zero_le _⟩⟩
    · simp [Value.cells] at hcs
      obtain ⟨rfl, rfl, rfl⟩ := hcs
      simp only [Prod.mk.injEq] at hx
      obtain ⟨-, rfl⟩ := hx
      simp only [if_true] at hz
      by_cases h0 : len = 0
      · subst h0
        exact ⟨[], .inl ⟨rfl, some a, cap, rfl, hm⟩⟩
      · obtain ⟨b, off, spot⟩ := a
        have hspot : spot = none := by simpa [Addr.add] using World.cell?_spot (hcell 0 (by omega))
        subst hspot
        have hbW : b < W.heap.size := hlt (.cell b off) (List.mem_append_right _ (MemPlace.mem_row.2 ⟨0, by omega, by simp⟩))
        refine ⟨ss.take len, .inr ⟨b, off, cap, ?_, ?_, hm, hbW, strsAt_of (b := b) _ _ (fun i hi => ?_) fun x hx => hws x (List.mem_of_mem_take hx)⟩⟩
        · rw [List.length_take, Nat.min_eq_left (by omega)]
        · rw [List.length_take]; omega
        · have hi' : i < ss.length := by rw [List.length_take] at hi; omega
          have := hcell i hi'
          rw [add_plain] at this
          rw [this, List.getElem_take, List.getD_eq_getElem?_getD, List.getElem?_eq_getElem hi']; rfl
  obtain ⟨l, hl⟩ := hss
  refine (TermNames_any s l v1 W hl hsm).mono fun e W' ⟨he, hnx⟩ => ?_
  subst he
  refine ⟨_, rfl, _, _, _, [] ++ [], p0 ++ p1, [], hW', ?_, ?_, rfl, hnx.frame _, fun h => by cases h⟩
  · exact trodAll_mk1 (shut_bool Tryz.underlying4 true)
  · exact trodAll_mk2 (Below.trod Tryz.laidOut (by kernel_rfl) (of_decide_eq_true (by kernel_rfl)) h0k hnx (fun x hx => hlt x (List.mem_append_left _ hx))) (Below.trod Tryz.laidOut (by kernel_rfl) (of_decide_eq_true (by kernel_rfl)) h1k hnx (fun x hx => hlt x (List.mem_append_right _ hx)))

theorem names_holds : Rows.TermNamesSaid :=
  OpenClaim.holds_of_wide 3 Tryz.f3 rfl rfl rfl rfl rfl rfl rfl ⟨rfl, rfl, rfl, rfl, rfl⟩ rfl rfl rfl rfl rfl (by kernel_rfl) Tryz.func3 (by kernel_rfl)
    (of_decide_eq_true (by kernel_rfl)) (by unfold Func.isWrapper; first | (rw [if_pos (by decide +kernel)]; kernel_rfl) | (rw [if_neg (by decide +kernel)]; exact ⟨rfl, rfl⟩))
    (fun os started H enc _ => names_lifted os started H enc)

end Go.Proofs.YtjpahjfjpkbcnaaGreat
