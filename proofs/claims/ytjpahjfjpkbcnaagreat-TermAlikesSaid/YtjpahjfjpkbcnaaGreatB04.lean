/- Contracts of the program's functions. -/
import Derived.Test.YtjpahjfjpkbcnaaGreatB03
import Derived.Test.YtjpahjfjpkbcnaaGreatB02
import Derived.Deep.RegionHeld3
import Derived.Deep.CutRange
import Derived.Deep.AppendLies
import Derived.Deep.AppendSrc

namespace Go.Proofs.YtjpahjfjpkbcnaaGreat
open Go.Proofs Go.RowKit
def bdOf (sc : Sc) (x : List UInt8) : Bool := sc.any fun p => p.1.toList == x
theorem findS_bd : ∀ (sc : Sc) (k : ByteArray), (findS sc k).isSome = bdOf sc k.toList
 | [], _ => rfl
 | (n, s) :: sc, k => by
  unfold findS bdOf
  rw [List.any_cons]
  by_cases h : (n.toList == k.toList) = true
  ·simp [h]
  ·have hf : (n.toList == k.toList) = false := by simpa using h
   rw [hf]
   simpa [bdOf] using findS_bd sc k
theorem bdOf_push (ns outs : List ByteArray) (sc : Sc) (h : outs.length = ns.length) (x : List UInt8) : bdOf (pushS ns outs sc) x = (bdOf sc x || ns.any fun s => s.toList == x) := by
 unfold bdOf pushS
 rw [List.any_append, List.any_reverse, Bool.or_comm]
 congr 1
 have : ∀ (ns outs : List ByteArray), outs.length = ns.length → (ns.zip outs).any (fun p => p.1.toList == x) = ns.any fun s => s.toList == x := by
  intro ns
  induction ns with
  | nil => intro outs _; simp
  | cons n ns ih =>
   intro outs h
   cases outs with
   | nil => simp at h
   | cons o outs => simp only [List.zip_cons_cons, List.any_cons]; rw [ih outs (by simpa using h)]
 exact this ns outs h
mutual
/-- The names that stand free, in their order, as often as they do. -/
def frees (bd : List UInt8 → Bool) : Tm → List (List UInt8)
 | .mk op n text kids pats => (if op = 4 ∧ bd text.toList = false then [text.toList] else []) ++ freesK bd (boundL (.mk op n text kids pats)) kids 0
def freesK (bd : List UInt8 → Bool) (bnd : Nat → List ByteArray) : List Tm → Nat → List (List UInt8)
 | [], _ => []
 | k :: ks, i => frees (fun x => bd x || (bnd i).any fun s => s.toList == x) k ++ freesK bd bnd ks (i + 1)
end
mutual
/-- What the walks ask of a term's nodes. -/
def okN : Tm → Prop
 | .mk op _ _ kids pats => (op = 15 → kids.length ≤ pats.length + 1) ∧ (op = 4 → kids = []) ∧ kids.length ≤ 900000 ∧ pats.length ≤ 900000 ∧ (∀ p ∈ pats, heightP p ≤ 1000 ∧ (partsP 1 p).length ≤ 1000000) ∧ okNs kids
def okNs : List Tm → Prop
 | [] => True
 | k :: ks => okN k ∧ okNs ks
end
theorem okNs_get : ∀ {ks : List Tm}, okNs ks → ∀ (k : Nat) (h : k < ks.length), okN ks[k]
 | p :: ps, h, 0, _ => by unfold okNs at h; exact h.1
 | p :: ps, h, k + 1, hk => by unfold okNs at h; exact okNs_get h.2 k (by simpa using hk)
theorem freesK_split (bd : List UInt8 → Bool) (bnd : Nat → List ByteArray) : ∀ (ks : List Tm) (k i : Nat) (h : k < ks.length), freesK bd bnd (ks.drop k) i = frees (fun x => bd x || (bnd i).any fun s => s.toList == x) ks[k] ++ freesK bd bnd (ks.drop (k + 1)) (i + 1) := by
 intro ks k i h
 rw [List.drop_eq_getElem_cons h]
 conv => lhs; unfold freesK
theorem frees_eq (bd : List UInt8 → Bool) (T : Tm) : frees bd T = (if T.op = 4 ∧ bd T.text.toList = false then [T.text.toList] else []) ++ freesK bd (boundL T) T.kids 0 := by
 cases T with
 | mk op n text kids pats => conv => lhs; unfold frees
                             rfl
theorem okN_eq (T : Tm) : okN T ↔ (T.op = 15 → T.kids.length ≤ T.pats.length + 1) ∧ (T.op = 4 → T.kids = []) ∧ T.kids.length ≤ 900000 ∧ T.pats.length ≤ 900000 ∧ (∀ p ∈ T.pats, heightP p ≤ 1000 ∧ (partsP 1 p).length ≤ 1000000) ∧ okNs T.kids := by
 cases T with
 | mk op n text kids pats => conv => lhs; unfold okN
                             rfl
theorem kid_ltT {T : Tm} (k : Nat) (h : k < T.kids.length) : SizeOf.sizeOf T.kids[k] < SizeOf.sizeOf T := by
 cases T with
 | mk op n text kids pats => exact kid_lt k h
theorem boundL_len (T : Tm) (k : Nat) (hok : okN T) : (boundL T k).length ≤ 1000000 := by
 unfold boundL
 split
 ·simp
 ·split
  ·cases h : T.pats[k - 1]? with
   | none => simp
   | some p =>
    have hm := List.mem_of_getElem? h
    have h2 := ((okN_eq T).1 hok).2.2.2.2.1 p hm
    have h3 := namesL_len ((partsP 1 p).map (·.2))
    simp only [Option.map_some, Option.getD_some, namesP]
    simp at h3
    omega
  ·simp
set_option maxHeartbeats 4000000 in
set_option maxRecDepth 100000 in
theorem findFree_any (T : Tm) : ∀ (sc : Sc) (v vs : Value) (w : World) (n n₀ mb : Nat) (mem : List UInt8 → Bool) (B : Nat → Prop), TmAt n₀ w T v → n₀ ≤ mb → okN T → ScIn B w sc vs → (∀ b, B b → b < w.heap.size ∧ b ≠ mb) →
  SetAt w mb n mem → n + (frees (bdOf sc) T).length ≤ 1000000000 →
  Calls Tryz.prog 135 #[v, vs, .map (some mb)] w fun e w' => (∃ u, e = .returned u) ∧ SetAt w' mb (n + (frees (bdOf sc) T).length) (fun x => mem x || (frees (bdOf sc) T).contains x) ∧ Kept (· = mb) w w' := by
 induction hT : SizeOf.sizeOf T using Nat.strongRecOn generalizing T with
 | _ m ih =>
 subst hT
 intro sc v vs w n n₀ mb mem B hv hnm hok hsc hB hset hlen
 have HIH := lh ih; clear ih
 obtain ⟨a, cap, a', cap', rfl, htx, hk, hps⟩ := hv.parts
 have hmb := hset.lt
 have HV := lh hv; have HK := lh hk; have HTX := lh htx; have HSC := lh hsc; have HB := lh hB; have HSET := lh hset; have HLEN := lh hlen; have HOK := lh hok
 clear hv hk hps htx hsc hB hset hlen hok
 have hfind := fun W (h : ScIn B W sc vs) => find_any B sc T.text vs W h
 obtain ⟨vp, rfl⟩ := HSC.o.ptr
 go_enter Tryz.func135, Tryz.ntmps135
 go_upto_if 12 with fail
 have hb0 : Below w.heap.size w (w.alloc (.cells #[.int .i64 T.op, .int .i64 T.n, .string T.text, .slice a T.kids.length cap, .slice a' T.pats.length cap'] 32)) := (Below.refl _ w).alloc (Nat.le_refl _) _
 have hx0 := heap_alloc_new w (.cells #[.int .i64 T.op, .int .i64 T.n, .string T.text, .slice a T.kids.length cap, .slice a' T.pats.length cap'] 32)
 generalize (w.alloc (.cells #[.int .i64 T.op, .int .i64 T.n, .string T.text, .slice a T.kids.length cap, .slice a' T.pats.length cap'] 32)) = W0 at *
 have HB0 := lh hb0; have HX0 := lh hx0
 clear hb0 hx0
 generalize (Value.agg #[.int .i64 T.op, .int .i64 T.n, .string T.text, .slice a T.kids.length cap, .slice a' T.pats.length cap']) = av
 go_cut [] from 6 to 24 (fun wx => ∃ dn, Hid (frees (bdOf sc) T = dn ++ freesK (bdOf sc) (boundL T) T.kids 0) ∧ SetAt wx mb (n + dn.length) (fun x => mem x || dn.contains x) ∧ Kept (· = mb) w wx ∧ wx.heap[w.heap.size]? = some (.cells #[.int .i64 T.op, .int .i64 T.n, .string T.text, .slice a T.kids.length cap, .slice a' T.pats.length cap'] 32 (0, 0)))
 case first =>
  have hfe := frees_eq (bdOf sc) T
  have HFE := lh hfe
  clear hfe
  have hset0 := HSET.o.here HB0.o
  obtain ⟨c0, c1, c2, c3, c4⟩ := cells5 HX0.o
  by_cases h4 : T.op = 4
  ·have hsc0 := ScIn.keep (B' := B) (w' := W0) (fun b h => ⟨h, HB0.o.block b (HB.o b h).1⟩) _ _ HSC.o
   have hfd := findS_bd sc T.text
   cases hf : (findS sc T.text).isSome
   ·have hbd : bdOf sc T.text.toList = false := hfd.symm.trans hf
    obtain ⟨w5, hput, hset5, hgr5⟩ := hset0.put T.text HTX.o (by have := HLEN.out; unfold maxLen; omega)
    have HSET5 := lh hset5; have HGR5 := lh hgr5; have HFI := lh (hfind _ hsc0); have HFS := lh hf; have HBD := lh hbd
    clear hset0 hset5 hgr5 hfd hsc0 hfind hf hbd
    go_wp2_with fail
    refine HFI.o.mono ?_
    rintro e w1 ⟨rfl, rfl⟩
    rw [HFS.o]
    go_wp2
    go_meet
    case rel =>
     rw [if_pos ⟨h4, HBD.o⟩] at HFE
     refine ⟨_, HFE.o, HSET5.o.congr fun k => ?_, ?_, ?_⟩
     ·simp only [List.contains_cons, List.contains_nil, Bool.or_false]
     ·exact (Kept.of_below HB0.o).trans ⟨HGR5.o.os, HGR5.o.tape, HGR5.o.output, HGR5.o.size, fun i h hs => HGR5.o.block i h (by simpa using hs)⟩
     ·exact (HGR5.o.block _ (lt_of_block HX0.o) (by simp; omega)).trans HX0.o
   ·have hbd : bdOf sc T.text.toList = true := hfd.symm.trans hf
    have HFI := lh (hfind _ hsc0); have HFS := lh hf; have HBD := lh hbd; have HS0 := lh hset0
    clear hset0 hfd hsc0 hfind hf hbd
    go_wp2_with fail
    refine HFI.o.mono ?_
    rintro e w1 ⟨rfl, rfl⟩
    rw [HFS.o]
    go_wp2
    go_meet
    case rel =>
     rw [if_neg (fun h => by rw [HBD.o] at h; simp at h)] at HFE
     exact ⟨[], HFE.o, HS0.o.congr fun k => by simp, Kept.of_below HB0.o, HX0.o⟩
  ·have HS0 := lh hset0
   clear hset0 hfind
   go_wp2
   go_meet
   case rel =>
    rw [if_neg (fun h => h4 h.1)] at HFE
    exact ⟨[], HFE.o, HS0.o.congr fun k => by simp, Kept.of_below HB0.o, HX0.o⟩
 case rest =>
  obtain ⟨dn, hfr, hset, hkp, hbox⟩ := hcut
  obtain ⟨c0, c1, c2, c3, c4⟩ := cells5 hbox
  have HFR := hfr; have HS1 := lh hset; have HK1 := lh hkp; have HBX := lh hbox
  clear hfr hset hkp hbox hfind
  obtain ⟨hok1, hok2, hok3, hok4, hok5, hok6⟩ := (okN_eq T).1 HOK.o
  have HOK1 := lh hok1; have HOK5 := lh hok5; have HOK6 := lh hok6
  clear hok1 hok2 hok5 hok6
  go_wp2_with fail
  go_loopw [28] (fun i wr => ∃ (k : Nat) (dn : List (List UInt8)), k ≤ T.kids.length ∧ i = .int .i64 k ∧ Hid (frees (bdOf sc) T = dn ++ freesK (bdOf sc) (boundL T) (T.kids.drop k) k) ∧ SetAt wr mb (n + dn.length) (fun x => mem x || dn.contains x) ∧ Kept (· = mb) w wr ∧ wr.heap[w.heap.size]? = some (.cells #[.int .i64 T.op, .int .i64 T.n, .string T.text, .slice a T.kids.length cap, .slice a' T.pats.length cap'] 32 (0, 0))) (fun i _ => T.kids.length - (intOf i).toNat)
  case atStart => exact ⟨0, dn, Nat.zero_le _, rfl, by simpa using HFR, HS1.o, HK1.o, HBX.o⟩
  case round =>
   obtain ⟨k, dn, hk, rfl, hfr, hset, hkp, hbox⟩ := hrel
   clear c0 c1 c2 c3 c4
   by_cases hlt : k < T.kids.length
   ·have hmw := hkp.size
    have hbw : Below n₀ w wr := hkp.below (by omega) (by rintro j rfl; exact hnm)
    obtain ⟨b, o, cap2, he, hc1, hc2, hbn, hss⟩ : ∃ b o cap2, (Value.slice a T.kids.length cap) = .slice (some ⟨b, o, none⟩) T.kids.length cap2 ∧ T.kids.length ≤ cap2 ∧ cap2 ≤ maxLen ∧ b < n₀ ∧ TmsAt n₀ w T.kids b o := by
     rcases HK.o with ⟨h, -⟩ | ⟨b, o, cap2, h1, h2, h3, h4, h5⟩
     ·omega
     ·exact ⟨b, o, cap2, h1, h2, h3, h4, h5⟩
    cases he
    obtain ⟨e0, e1, e2, e3, e4, g0, g1, g2, g3, g4, ht⟩ := TmsAt.get T.kids b o hss k hlt
    have q0 := (hbw.cell (p := ⟨b, _, none⟩) hbn).trans g0
    have q1 := (hbw.cell (p := ⟨b, _, none⟩) hbn).trans g1
    have q2 := (hbw.cell (p := ⟨b, _, none⟩) hbn).trans g2
    have q3 := (hbw.cell (p := ⟨b, _, none⟩) hbn).trans g3
    have q4 := (hbw.cell (p := ⟨b, _, none⟩) hbn).trans g4
    clear g0 g1 g2 g3 g4
    obtain ⟨oo, nn, tt, ka, kn, kc, pa, pn, pc, rfl, rfl, rfl, rfl, rfl⟩ := ht.shape
    have HFRK := hfr; have HST := lh hset; have HKP := lh hkp; have HBO := lh hbox; have HT := lh ht; have HBW := lh hbw
    clear hfr hset hkp hbox ht hss hbw
    go_upto_region 8 with fail
    have hBW1 : Below wr.heap.size wr (wr.alloc (.cells #[.int .i64 oo, .int .i64 nn, .string tt, .slice ka kn kc, .slice pa pn pc] 32)) := (Below.refl _ wr).alloc (Nat.le_refl _) _
    have hX2 := heap_alloc_new wr (.cells #[.int .i64 oo, .int .i64 nn, .string tt, .slice ka kn kc, .slice pa pn pc] 32)
    generalize (wr.alloc (.cells #[.int .i64 oo, .int .i64 nn, .string tt, .slice ka kn kc, .slice pa pn pc] 32)) = W at *
    have hX1 := bget' hBW1 HBO.o
    have hKW : Kept (· = mb) w W.drew := HKP.o.trans ((Kept.of_below hBW1).trans ⟨rfl, rfl, rfl, Nat.le_refl _, fun _ _ _ => rfl⟩)
    have hbd : Below n₀ w W.drew := hKW.below (by omega) (by rintro j rfl; exact hnm)
    have hTD : TmAt n₀ W.drew T _ := TmAt.keep hbd (Nat.le_refl _) _ _ HV.o
    have hsz : W.heap.size = W.drew.heap.size := rfl
    have hS0 := And.intro (cells5 (W := W.drew) hX1) (cells5 (W := W.drew) hX2)
    have hmm : mb < W.drew.heap.size := by have := hKW.size; omega
    have hbi := boundIn_any T k _ W.drew (TmAt.keep (Below.refl _ _) (by omega) _ _ hTD) (by omega) (fun h15 hk0 => by have := HOK1.o h15; omega) HOK5.o
    have hsetD := (HST.o.here hBW1).block (w' := W.drew) rfl
    have hscD := ScIn.keep (B' := B) (w' := W.drew) (fun b h => ⟨h, hKW.block b (HB.o b h).1 (HB.o b h).2⟩) _ _ HSC.o
    have hwt := fun (w1 : World) (nv : Value) (hb1 : Below W.drew.heap.size W.drew w1) (hnv : SlIn (Fresh W.drew w1) nv (boundL T k).length fun b o => StrsAt w1 (boundL T k) b o) =>
     with_any (fun _ => False) (fun b => B b ∨ Fresh W.drew w1 b) (fun _ _ => True) 142 #[] (enters_of Tryz.func142 (by kernel_rfl) rfl) (boundL T k) sc (.pointer vp) nv w1
      (fun b h => ⟨h.elim (fun h => by have := (HB.o b h).1; have := hKW.size; have := hb1.size; omega) fun h => h.2, id⟩) (fun _ h => h.elim)
      (hnv.mono (fun b h => .inr h) fun _ _ _ h => h) (ScIn.keep (fun b h => ⟨.inl h, hb1.block b (by have := (HB.o b h).1; have := hKW.size; omega)⟩) _ _ hscD) (boundL_len T k HOK.o)
      (fun _ _ _ _ _ => trivial) trivial (fun k' hk' outs W' _ hsz' _ _ => (same_any _ W').mono (by rintro e w' ⟨rfl, rfl⟩; exact ⟨_, rfl, hsz', trivial, Kept.refl _ _⟩))
    have hre := fun (w1 w2 : World) (outs : List ByteArray) (v2 : Value) (hb1 : Below W.drew.heap.size W.drew w1) (ho : outs.length = (boundL T k).length)
      (hsc2 : ScIn (fun b => (B b ∨ Fresh W.drew w1 b) ∨ Fresh w1 w2 b) w2 (pushS (boundL T k) outs sc) v2) (hk2 : Kept (fun _ => False) w1 w2) =>
     HIH.o _ (kid_ltT k hlt) T.kids[k] rfl (pushS (boundL T k) outs sc) _ v2 w2 (n + dn.length) n₀ mb (fun x => mem x || dn.contains x) (fun b => (B b ∨ Fresh W.drew w1 b) ∨ Fresh w1 w2 b)
      (TmAt.keep (hbd.trans ((hb1.mono (by omega)).trans (hk2.below (by have := hb1.size; omega) (fun _ h => h.elim)))) (Nat.le_refl _) _ _ HT.o) hnm (okNs_get HOK6.o k hlt) hsc2
      (fun b h => by
       have s1 := hb1.size
       have s2 := hk2.size
       rcases h with (h | h) | h
       ·have := HB.o b h; have := hKW.size; exact ⟨by omega, by omega⟩
       ·have h1 := h.1; have h2 := h.2; exact ⟨by omega, by omega⟩
       ·have h1 := h.1; have h2 := h.2; exact ⟨by omega, by omega⟩)
      ((hsetD.here hb1).kept hk2 id)
      (by
       have hfe := (congrArg (fun z => frees z T.kids[k]) (funext (bdOf_push (boundL T k) outs sc ho)))
       have h1 := HLEN.o
       rw [HFRK.o, freesK_split _ _ _ _ _ hlt] at h1
       simp only [List.length_append] at h1
       rw [hfe]
       omega)
    have HRE := lh hre
    clear hre
    have HBI := lh hbi; have HWT := lh hwt; have HSD := lh hsetD; have HKW := lh hKW; have HX1 := lh hX1; have HX2 := lh hX2; have HBW1 := lh hBW1; have HTD := lh hTD
    clear hbi hwt hsetD hKW hX1 hX2 hBW1 hTD hbd hscD
    go_region_held3 (fun w' => (w'.cell? ⟨w.heap.size, 0, none⟩ = some (.int .i64 T.op) ∧ w'.cell? ⟨w.heap.size, 1, none⟩ = some (.int .i64 T.n) ∧ w'.cell? ⟨w.heap.size, 2, none⟩ = some (.string T.text) ∧ w'.cell? ⟨w.heap.size, 3, none⟩ = some (.slice (some ⟨b, o, none⟩) T.kids.length cap) ∧ w'.cell? ⟨w.heap.size, 4, none⟩ = some (.slice a' T.pats.length cap')) ∧ (w'.cell? ⟨wr.heap.size, 0, none⟩ = some (.int .i64 oo) ∧ w'.cell? ⟨wr.heap.size, 1, none⟩ = some (.int .i64 nn) ∧ w'.cell? ⟨wr.heap.size, 2, none⟩ = some (.string tt) ∧ w'.cell? ⟨wr.heap.size, 3, none⟩ = some (.slice ka kn kc) ∧ w'.cell? ⟨wr.heap.size, 4, none⟩ = some (.slice pa pn pc)))
     (first | exact hS0 | exact hS1 | exact hS2 | exact hS3)
     (first
      | (go_at_call 159; refine HBI.o.mono ?_; rintro e w1 ⟨⟨nv, rfl, hnv⟩, hb1⟩; obtain ⟨na, ncap, rfl⟩ := hnv.split; have hS1 := And.intro (cells5 (bget' (A := W.drew) hb1 HX1.o)) (cells5 (bget' (A := W.drew) hb1 HX2.o)); have HW := lh (HWT.o w1 _ hb1 hnv); have HB1 := lh hb1; clear hb1 hnv hS0)
      | (go_at_call 158; refine HW.o.mono ?_; rintro e w2 ⟨vs2, outs, rfl, ho, -, hsc2, hk2⟩; obtain ⟨vp2, rfl⟩ := hsc2.ptr; have hS2 := And.intro (cells5 (hk2.get (bget' (A := W.drew) HB1.o HX1.o) id)) (cells5 (hk2.get (bget' (A := W.drew) HB1.o HX2.o) id)); have HREC := lh (HRE.o w1 w2 outs _ HB1.o ho hsc2 hk2); have HK2 := lh (HKW.o.trans ((Kept.of_below HB1.o).trans (hk2.mono (fun _ h => h.elim)))); have HX12 := lh (hk2.get (bget' (A := W.drew) HB1.o HX1.o) id); have HX22 := lh (hk2.get (bget' (A := W.drew) HB1.o HX2.o) id); clear hsc2 hk2 hS1)
      | (go_at_call 135; refine HREC.o.mono ?_; rintro e w3 ⟨⟨u, rfl⟩, hs3, hk3⟩; have hX13 := hk3.get HX12.o (by omega); have hS3 := And.intro (cells5 hX13) (cells5 (hk3.get HX22.o (by omega))); have HS3 := lh hs3; have HK3 := lh hk3; have HX13 := lh hX13; clear hs3 hk3 hX13 hS2))
    clear hS3
    have hft := bdOf_push (boundL T k) outs sc ho
    have HFT := lh hft
    clear hft
    go_wp2
    go_roundw
    case rel =>
     have hfe := (congrArg (fun z => frees z T.kids[k]) (funext HFT.o))
     refine ⟨k + 1, dn ++ frees (bdOf (pushS (boundL T k) outs sc)) T.kids[k], by omega, by go_num, ?_, ?_, HK2.o.trans HK3.o, HX13.o⟩
     ·show frees (bdOf sc) T = _
      rw [HFRK.o, freesK_split _ _ _ _ _ hlt, hfe, List.append_assoc]
     ·rw [List.length_append, ← Nat.add_assoc]
      exact HS3.o.congr fun x => by simp [Bool.or_assoc]
    case measure => simp [intOf]; omega
   ·obtain rfl : k = T.kids.length := by omega
    rw [List.drop_length] at hfr
    have hfr2 : frees (bdOf sc) T = dn := by
     have h := hfr.o
     unfold freesK at h
     simpa using h
    have HSS := lh hset; have HKK := lh hkp; have HF2 := lh hfr2
    clear hset hkp hbox hfr hfr2
    go_wp2
    go_end0
    rw [HF2.o]
    exact ⟨⟨_, rfl⟩, HSS.o, HKK.o⟩
mutual
def renP (sc : Sc) : Pt → Pt
 | .mk f n t ps => .mk f n (if f = 2 then (findS sc t).getD t else t) (renPs sc ps)
def renPs (sc : Sc) : List Pt → List Pt
 | [] => []
 | p :: ps => renP sc p :: renPs sc ps
end
theorem renPs_map (sc : Sc) : ∀ (ps : List Pt), renPs sc ps = ps.map (renP sc)
 | [] => rfl
 | p :: ps => by unfold renPs; rw [renPs_map sc ps]; rfl
theorem findS_size {B : Nat → Prop} {w : World} : ∀ (sc : Sc) (v : Value) (k s : ByteArray), ScIn B w sc v → findS sc k = some s → s.size ≤ maxLen
 | (n, t) :: sc, v, k, s, ⟨b, v', h1, h2, h3, h4, h5, h6, h7, h8⟩, hf => by
  unfold findS at hf
  split at hf
  ·cases hf; exact h7
  ·exact findS_size sc v' k s h8 hf
set_option maxHeartbeats 2000000 in
theorem ren1_any (Bx : Nat) (vp : Option Addr) (T : Pt) (p : Pt) (v1 : Value) (W : World) (hb : W.heap[Bx]? = some (.cells #[.pointer vp] 173 (0, 0))) (hv : PtAt W.heap.size W p v1)
  (hcall : ∀ W2, Below W.heap.size W W2 → W.heap.size ≤ W2.heap.size → Calls Tryz.prog 164 #[v1, .pointer vp] W2 fun e W' => (∃ v2, e = .returned v2 ∧ PtNew W2 W' T v2) ∧ Below W2.heap.size W2 W') :
  Calls Tryz.prog 172 #[v1, .pointer (some ⟨Bx, 0, none⟩)] W fun e W' => (∃ v2, e = .returned v2 ∧ PtNew W W' T v2) ∧ Below W.heap.size W W' := by
 obtain ⟨oo, nn, tt, ka, kn, kc, rfl⟩ : ∃ oo nn tt ka kn kc, v1 = .agg #[.int .i64 oo, .int .i64 nn, .string tt, .slice ka kn kc] := by
  obtain ⟨a, cap, rfl, -⟩ := hv.parts
  exact ⟨_, _, _, _, _, _, rfl⟩
 have hb2 : Below W.heap.size W ((W.alloc (.cells #[.int .i64 oo, .int .i64 nn, .string tt, .slice ka kn kc] 35)).alloc (.cells #[.int .i64 0, .int .i64 0, .string ⟨#[]⟩, .slice none 0 0] 35)) := ((Below.refl _ W).alloc (Nat.le_refl _) _).alloc (by simp) _
 have hx1 : ((W.alloc (.cells #[.int .i64 oo, .int .i64 nn, .string tt, .slice ka kn kc] 35)).alloc (.cells #[.int .i64 0, .int .i64 0, .string ⟨#[]⟩, .slice none 0 0] 35)).heap[W.heap.size]? = some (.cells #[.int .i64 oo, .int .i64 nn, .string tt, .slice ka kn kc] 35 (0, 0)) := by rw [Below.heap_alloc _ _ _ (by simp)]; exact heap_alloc_new _ _
 have hx2 := heap_alloc_new (W.alloc (.cells #[.int .i64 oo, .int .i64 nn, .string tt, .slice ka kn kc] 35)) (.cells #[.int .i64 0, .int .i64 0, .string ⟨#[]⟩, .slice none 0 0] 35)
 rw [World.size_alloc] at hx2
 have hs2 : ((W.alloc (.cells #[.int .i64 oo, .int .i64 nn, .string tt, .slice ka kn kc] 35)).alloc (.cells #[.int .i64 0, .int .i64 0, .string ⟨#[]⟩, .slice none 0 0] 35)).heap.size = W.heap.size + 2 := by simp
 clear hv
 go_enter Tryz.func172, Tryz.ntmps172
 go_upto_region 1 with fail
 generalize ((W.alloc (.cells #[.int .i64 oo, .int .i64 nn, .string tt, .slice ka kn kc] 35)).alloc (.cells #[.int .i64 0, .int .i64 0, .string ⟨#[]⟩, .slice none 0 0] 35)) = V at *
 obtain ⟨c0, c1, c2, c3⟩ := cells4 hx1
 have g0 := cell_of_one (bget' hb2 hb)
 have HC := lh (hcall V hb2 hb2.size)
 have HB2 := lh hb2; have HX2 := lh hx2; have HS2 := lh hs2
 clear hcall hb2 hx1 hx2 hs2 hb
 go_wp2_with fail
 refine HC.o.mono ?_
 rintro e w1 ⟨⟨v2, rfl, hnew⟩, hb1⟩
 obtain ⟨o2, n2, t2, ka2, kn2, kc2, rfl⟩ := PtIn.shape hnew
 have x2 := bget' hb1 HX2.o
 obtain ⟨z0, z1, z2, z3⟩ := cells4 x2
 have f2 := free_box x2
 have hs1 := hb1.size
 rw [HS2.o] at hs1
 have HNEW := lh hnew; have HB1 := lh hb1
 clear hnew hb1 x2 HC c0 c1 c2 c3 g0
 go_wp2
 have hkp : Kept (fun k => k = W.heap.size + 1) w1 ((((w1.setCell ⟨W.heap.size + 1, 0, none⟩ (.int .i64 o2)).setCell ⟨W.heap.size + 1, 1, none⟩ (.int .i64 n2)).setCell ⟨W.heap.size + 1, 2, none⟩ (.string t2)).setCell ⟨W.heap.size + 1, 3, none⟩ (.slice ka2 kn2 kc2)) :=
  (((Kept.setCell (S := fun k => k = W.heap.size + 1) _ rfl _).trans (.setCell (S := fun k => k = W.heap.size + 1) _ rfl _)).trans (.setCell (S := fun k => k = W.heap.size + 1) _ rfl _)).trans (.setCell (S := fun k => k = W.heap.size + 1) _ rfl _)
 have hsk := hkp.size
 refine bodyPost_ret (v := .agg #[.int .i64 o2, .int .i64 n2, .string t2, .slice ka2 kn2 kc2]) (by simp [results, Tryz.results172, go_sem, z0, z1, z2, z3]) rfl ⟨⟨_, rfl, ?_⟩, (HB2.o.trans (HB1.o.mono HB2.o.size)).trans (hkp.below (by omega) (by rintro k rfl; omega))⟩
 have hfr : ∀ b, Fresh V w1 b → W.heap.size + 2 ≤ b ∧ b < w1.heap.size := fun b h => ⟨by have := h.1; have := HS2.out; omega, h.2⟩
 exact PtIn.keep (fun b h => hkp.block b (hfr b h).2 (by have := (hfr b h).1; omega)) (fun b h => ⟨by have := (hfr b h).1; omega, by have := (hfr b h).2; omega⟩) _ _ HNEW.o
set_option maxHeartbeats 4000000 in
set_option maxRecDepth 100000 in
theorem renamedPat_any (p : Pt) : ∀ (sc : Sc) (v vs : Value) (W : World) (B : Nat → Prop), PtAt W.heap.size W p v → lensP p → ScIn B W sc vs → (∀ b, B b → b < W.heap.size) →
  Calls Tryz.prog 164 #[v, vs] W fun e W' => (∃ v2, e = .returned v2 ∧ PtNew W W' (renP sc p) v2) ∧ Below W.heap.size W W' := by
 induction hT : SizeOf.sizeOf p using Nat.strongRecOn generalizing p with
 | _ m ih =>
 subst hT
 intro sc v vs W B hv hlen hsc hB
 have HIH := lh ih; clear ih
 obtain ⟨vp, rfl⟩ := hsc.ptr
 cases p with
 | mk op n text parts =>
 unfold PtAt at hv
 obtain ⟨kv, rfl, htx, hk⟩ := hv
 obtain ⟨a, cap, rfl, -⟩ := hk.split
 unfold lensP at hlen
 have hb3 : Below W.heap.size W (((W.alloc (.cells #[.int .i64 op, .int .i64 n, .string text, .slice a parts.length cap] 35)).alloc (.cells #[.pointer vp] 173)).alloc (.cells #[.int .i64 0, .int .i64 0, .string ⟨#[]⟩, .slice none 0 0] 35)) := (((Below.refl _ W).alloc (Nat.le_refl _) _).alloc (by simp) _).alloc (by simp; omega) _
 have hx1 : (((W.alloc (.cells #[.int .i64 op, .int .i64 n, .string text, .slice a parts.length cap] 35)).alloc (.cells #[.pointer vp] 173)).alloc (.cells #[.int .i64 0, .int .i64 0, .string ⟨#[]⟩, .slice none 0 0] 35)).heap[W.heap.size]? = some (.cells #[.int .i64 op, .int .i64 n, .string text, .slice a parts.length cap] 35 (0, 0)) := by
  rw [Below.heap_alloc _ _ _ (by simp; omega), Below.heap_alloc _ _ _ (by simp)]; exact heap_alloc_new _ _
 have hx2 : (((W.alloc (.cells #[.int .i64 op, .int .i64 n, .string text, .slice a parts.length cap] 35)).alloc (.cells #[.pointer vp] 173)).alloc (.cells #[.int .i64 0, .int .i64 0, .string ⟨#[]⟩, .slice none 0 0] 35)).heap[W.heap.size + 1]? = some (.cells #[.pointer vp] 173 (0, 0)) := by
  rw [Below.heap_alloc _ _ _ (by simp)]; have := heap_alloc_new (W.alloc (.cells #[.int .i64 op, .int .i64 n, .string text, .slice a parts.length cap] 35)) (.cells #[.pointer vp] 173); simpa using this
 have hx3 : (((W.alloc (.cells #[.int .i64 op, .int .i64 n, .string text, .slice a parts.length cap] 35)).alloc (.cells #[.pointer vp] 173)).alloc (.cells #[.int .i64 0, .int .i64 0, .string ⟨#[]⟩, .slice none 0 0] 35)).heap[W.heap.size + 1 + 1]? = some (.cells #[.int .i64 0, .int .i64 0, .string ⟨#[]⟩, .slice none 0 0] 35 (0, 0)) := by
  have := heap_alloc_new ((W.alloc (.cells #[.int .i64 op, .int .i64 n, .string text, .slice a parts.length cap] 35)).alloc (.cells #[.pointer vp] 173)) (.cells #[.int .i64 0, .int .i64 0, .string ⟨#[]⟩, .slice none 0 0] 35); simpa using this
 have hs3 : (((W.alloc (.cells #[.int .i64 op, .int .i64 n, .string text, .slice a parts.length cap] 35)).alloc (.cells #[.pointer vp] 173)).alloc (.cells #[.int .i64 0, .int .i64 0, .string ⟨#[]⟩, .slice none 0 0] 35)).heap.size = W.heap.size + 3 := by simp
 go_enter Tryz.func164, Tryz.ntmps164
 go_upto_region 1 with fail
 generalize (((W.alloc (.cells #[.int .i64 op, .int .i64 n, .string text, .slice a parts.length cap] 35)).alloc (.cells #[.pointer vp] 173)).alloc (.cells #[.int .i64 0, .int .i64 0, .string ⟨#[]⟩, .slice none 0 0] 35)) = V at *
 obtain ⟨c0, c1, c2, c3⟩ := cells4 hx1
 have f1 := free_box hx1
 have g0 := cell_of_one hx2
 have hfd := find_any B sc text (.pointer vp) V (ScIn.keep (fun b h => ⟨h, hb3.block b (hB b h)⟩) _ _ hsc)
 have hgs : ((findS sc text).getD text).size ≤ maxLen := by
  cases hf : findS sc text with
  | none => exact htx
  | some s => exact findS_size sc _ _ _ hsc hf
 have HX1 := lh hx1; have HX2 := lh hx2; have HX3 := lh hx3; have HB3 := lh hb3; have HS3 := lh hs3; have HFD := lh hfd; have HK := lh hk; have HL := lh hlen; have HSC := lh hsc; have HB := lh hB; have HTX := lh htx; have HGS := lh hgs
 clear hx1 hx2 hx3 hb3 hs3 hfd hk hlen hsc hB htx hgs
 generalize (Value.agg #[.int .i64 op, .int .i64 n, .string text, .slice a parts.length cap]) = av
 go_upto_if 7 with fail
 go_cut [] from 5 to 15 (fun wx => ∃ t', Hid (t' = if op = 2 then (findS sc text).getD text else text) ∧ Hid (t'.size ≤ maxLen) ∧ wx.heap[W.heap.size]? = some (.cells #[.int .i64 op, .int .i64 n, .string t', .slice a parts.length cap] 35 (0, 0)) ∧ Kept (· = W.heap.size) V wx)
 case first =>
  by_cases h2 : op = 2
  ·have he : (if op = 2 then (findS sc text).getD text else text) = (findS sc text).getD text := if_pos h2
   have HE := lh he
   clear he
   go_wp2_with fail
   refine HFD.o.mono ?_
   rintro e w1 ⟨rfl, rfl⟩
   go_wp2
   go_meet
   case rel => exact ⟨(findS sc text).getD text, HE.o.symm, HGS.o, box_setCell HX1.o 2 _, Kept.setCell (S := (· = W.heap.size)) _ rfl _⟩
  ·have he : (if op = 2 then (findS sc text).getD text else text) = text := if_neg h2
   have HE := lh he
   clear he
   go_wp2
   go_meet
   case rel => exact ⟨text, HE.o.symm, HTX.o, HX1.o, Kept.refl _ _⟩
 case rest =>
  obtain ⟨t', ht', hts, hbx, hkp⟩ := hcut
  have hx2 := hkp.get HX2.o (by omega)
  have hx3 := hkp.get HX3.o (by omega)
  have hbw : Below W.heap.size W wc := HB3.o.trans (hkp.below HB3.o.size (by rintro k rfl; omega))
  have hsw : W.heap.size + 3 ≤ wc.heap.size := by have := hkp.size; have := HS3.out; omega
  clear c0 c1 c2 c3 f1 g0
  obtain ⟨c0, c1, c2, c3⟩ := cells4 hbx
  have he := eachP_any 172 #[.pointer (some ⟨W.heap.size + 1, 0, none⟩)] (enters_of Tryz.func172 (by kernel_rfl) rfl) (renP sc) parts (.slice a parts.length cap) wc (HK.o.mono hbw.size fun b o hlt hr => PtsAt.keep hbw hbw.size _ b o hlt hr) HL.o.1
   (fun k hk v1 W1 hb1 hv1 => by
    have hy2 := bget' hb1 hx2
    have hbW1 := hbw.trans (hb1.mono hbw.size)
    exact ren1_any (W.heap.size + 1) vp (renP sc parts[k]) parts[k] v1 W1 hy2 hv1 fun W2 hb2 hs2 =>
     HIH.o _ (kid_ltP k hk) parts[k] rfl sc v1 (.pointer vp) W2 B (PtAt.keep hb2 hs2 _ _ hv1) (lensP_get HL.o.2 k hk)
      (ScIn.keep (fun b h => ⟨h, (hb2.block b (by have := HB.o b h; have := hbW1.size; omega)).trans (hbW1.block b (HB.o b h))⟩) _ _ HSC.o) (fun b h => by have := HB.o b h; have := hbW1.size; omega))
  have HE := lh he; have HBX := lh hbx; have HX3' := lh hx3; have HBW := lh hbw; have HT' := ht'; have HTS := hts
  clear he hbx hx2 hx3 hbw hkp ht' hts HX1 HX2 HX3 HFD
  go_wp2_with fail
  refine HE.o.mono ?_
  rintro e w1 ⟨⟨v2, rfl, hsl⟩, hb1⟩
  obtain ⟨a2, cap2, rfl⟩ := hsl.split
  have x1 := bget' hb1 HBX.o
  have x2 := bget' hb1 HX3'.o
  clear c0 c1 c2 c3
  obtain ⟨y0, y1, y2, y3⟩ := cells4 x1
  obtain ⟨z0, z1, z2, z3⟩ := cells4 x2
  have f1 := free_box x1
  have f2 := free_box x2
  have hs1 := hb1.size
  have HSL := lh hsl; have HB1 := lh hb1
  clear x1 x2 hsl hb1 HE
  go_wp2
  have hkp : Kept (fun k => k = W.heap.size ∨ k = W.heap.size + 1 + 1) w1 (((((w1.setCell ⟨W.heap.size, 3, none⟩ (.slice a2 parts.length cap2)).setCell ⟨W.heap.size + 1 + 1, 0, none⟩ (.int .i64 op)).setCell ⟨W.heap.size + 1 + 1, 1, none⟩ (.int .i64 n)).setCell ⟨W.heap.size + 1 + 1, 2, none⟩ (.string t')).setCell ⟨W.heap.size + 1 + 1, 3, none⟩ (.slice a2 parts.length cap2)) :=
   ((((Kept.setCell _ (.inl rfl) _).trans (.setCell _ (.inr rfl) _)).trans (.setCell _ (.inr rfl) _)).trans (.setCell _ (.inr rfl) _)).trans (.setCell _ (.inr rfl) _)
  have hs2 := hkp.size
  refine bodyPost_ret (v := .agg #[.int .i64 op, .int .i64 n, .string t', .slice a2 parts.length cap2]) (by simp [results, Tryz.results164, go_sem, z0, z1, z2, z3]) rfl ⟨⟨_, rfl, ?_⟩, (HBW.o.trans (HB1.o.mono HBW.o.size)).trans (hkp.below (by omega) (by rintro k (rfl | rfl) <;> omega))⟩
  unfold renP
  unfold PtNew PtIn
  have hkeep : ∀ b, Fresh wc w1 b → W.heap.size + 3 ≤ b ∧ b < w1.heap.size := fun b h => ⟨by have := h.1; omega, h.2⟩
  refine ⟨_, by rw [← HT'.o], by rw [← HT'.o]; exact HTS.o, ?_⟩
  have hsl := HSL.o
  rw [← renPs_map] at hsl
  have hlr : (renPs sc parts).length = parts.length := by rw [renPs_map]; simp
  rw [hlr]
  exact hsl.mono (fun b h => ⟨by have := (hkeep b h).1; omega, by have := (hkeep b h).2; omega⟩) fun b o h hr =>
   PtsIn.keep (fun b h => hkp.block b (hkeep b h).2 (by have := (hkeep b h).1; omega)) (fun b h => ⟨by have := (hkeep b h).1; omega, by have := (hkeep b h).2; omega⟩) _ _ _ h hr
theorem eval_put_same {a : Act} {d : Nat} {v : Value} (h : d < a.tmps.size) : (a.put (some d) v).eval (.tmp d) = v := by
 simp [Act.put, Act.eval, h]
theorem eval_put_ne {a : Act} {d x : Nat} {v : Value} (h : d ≠ x) : (a.put (some d) v).eval (.tmp x) = a.eval (.tmp x) := by
 simp [Act.put, Act.eval, Array.getElem?_setIfInBounds_ne h]
theorem size_put {a : Act} {d : Nat} {v : Value} : (a.put (some d) v).tmps.size = a.tmps.size := by simp [Act.put]
attribute [local go_sem] eval_put_same eval_put_ne size_put
theorem below_drew (n₀ : Nat) (W : World) : Below n₀ W W.drew := ⟨rfl, rfl, rfl, Nat.le_refl _, fun _ _ => rfl⟩
def r139x0 : Oper := { dst := some 67, op := Op.fieldAddr 32 (Operand.tmp 8) 4, type := 0, pos := "bound.go:123", after := #[], guard := none }
def r139x1 : Oper := { dst := some 68, op := Op.load 30 (Operand.tmp 67), type := 30, pos := "bound.go:123", after := #[{ on := 0, ground := Ground.data }], guard := none }
def r139x2 : Oper := { dst := some 69, op := Op.load 35 (Operand.tmp 12), type := 35, pos := "bound.go:123", after := #[], guard := none }
def r139x3 : Oper := { dst := some 70, op := Op.move (Operand.tmp 9), type := 167, pos := "bound.go:123", after := #[], guard := none }
def r139x4 : Oper := { dst := some 71, op := Op.move (Operand.tmp 11), type := 3, pos := "bound.go:123", after := #[], guard := none }
def r139x5 : Oper := { dst := some 72, op := Op.binOp BinOp.add 3 (Operand.tmp 71) (Operand.const (Value.int IntKind.i64 1)) 3, type := 3, pos := "bound.go:123", after := #[{ on := 4, ground := Ground.data }], guard := none }
def r139x6 : Oper := { dst := some 73, op := Op.indexAddr 167 (Operand.tmp 70) (Operand.tmp 72), type := 0, pos := "bound.go:123", after := #[{ on := 3, ground := Ground.data }, { on := 5, ground := Ground.data }], guard := none }
def r139x7 : Oper := { dst := some 74, op := Op.load 173 (Operand.tmp 73), type := 173, pos := "bound.go:123", after := #[{ on := 6, ground := Ground.data }], guard := none }
def r139x8 : Oper := { dst := some 75, op := Op.call { callee := Callee.value (Operand.func 164), args := #[Operand.tmp 69, Operand.tmp 74], argTypes := #[35, 173] }, type := 35, pos := "bound.go:123", after := #[{ on := 2, ground := Ground.data }, { on := 7, ground := Ground.data }], guard := none }
def r139x9 : Oper := { dst := some 76, op := Op.buildSlice 30 1 #[(0, Operand.tmp 75)], type := 30, pos := "bound.go:123", after := #[{ on := 8, ground := Ground.data }], guard := none }
def r139x10 : Oper := { dst := some 77, op := Op.call { callee := Callee.builtin Builtin.append, args := #[Operand.tmp 68, Operand.tmp 76], argTypes := #[30, 30] }, type := 30, pos := "bound.go:123", after := #[{ on := 1, ground := Ground.data }, { on := 9, ground := Ground.data }, { on := 8, ground := Ground.chain }], guard := none }
def r139x11 : Oper := { dst := some 78, op := Op.fieldAddr 32 (Operand.tmp 8) 4, type := 0, pos := "bound.go:123", after := #[{ on := 0, ground := Ground.phase }, { on := 1, ground := Ground.phase }, { on := 2, ground := Ground.phase }, { on := 3, ground := Ground.phase }, { on := 4, ground := Ground.phase }, { on := 5, ground := Ground.phase }, { on := 6, ground := Ground.phase }, { on := 7, ground := Ground.phase }, { on := 8, ground := Ground.phase }, { on := 9, ground := Ground.phase }, { on := 10, ground := Ground.phase }], guard := none }
def r139x12 : Oper := { dst := none, op := Op.store 30 (Operand.tmp 78) (Operand.tmp 77), type := 0, pos := "bound.go:123", after := #[{ on := 11, ground := Ground.data }, { on := 10, ground := Ground.data }, { on := 10, ground := Ground.chain }, { on := 0, ground := Ground.phase }, { on := 1, ground := Ground.phase }, { on := 2, ground := Ground.phase }, { on := 3, ground := Ground.phase }, { on := 4, ground := Ground.phase }, { on := 5, ground := Ground.phase }, { on := 6, ground := Ground.phase }, { on := 7, ground := Ground.phase }, { on := 8, ground := Ground.phase }, { on := 9, ground := Ground.phase }, { on := 10, ground := Ground.phase }], guard := none }
def ops139 : Array Oper := #[r139x0, r139x1, r139x2, r139x3, r139x4, r139x5, r139x6, r139x7, r139x8, r139x9, r139x10, r139x11, r139x12]
attribute [local go_sem] r139x0 r139x1 r139x2 r139x3 r139x4 r139x5 r139x6 r139x7 r139x8 r139x9 r139x10 r139x11 r139x12
set_option maxHeartbeats 2000000 in
theorem reg139 {Q : Exit → Act → World → Prop} {a : Act} {U : World} {pb qb sb n k m base : Nat} {x0 x1 x2 x3 vo : Value} {cs : Array Value} {vqp : Option Addr} {oo nn : Int} {tt : ByteArray} {ka : Option Addr} {kn kc : Nat} {xs : List Value} {T : Pt}
  (hsz : a.tmps.size = 82) (h8 : a.tmps[8]'(by omega) = .pointer (some ⟨pb, 0, none⟩)) (h12 : a.tmps[12]'(by omega) = .pointer (some ⟨qb, 0, none⟩)) (h9 : a.tmps[9]'(by omega) = .slice (some ⟨sb, 0, none⟩) n n) (h11 : a.tmps[11]'(by omega) = .int .i64 k)
  (hQ : ∀ c (d : Nat) v (a : Act) w, Q (.panic c) (a.put (some d) v) w → Q (.panic c) a w)
  (hbx : U.heap[pb]? = some (.cells #[x0, x1, x2, x3, vo] 32 (0, 0))) (hq : U.heap[qb]? = some (.cells #[.int .i64 oo, .int .i64 nn, .string tt, .slice ka kn kc] 35 (0, 0))) (hs : U.heap[sb]? = some (.cells cs 173 (0, 0))) (hc : cs[k + 1]? = some (.pointer vqp)) (hk : k + 1 < n) (hn : n ≤ 1000000)
  (hrow : U.ownsRow base 35 4 vo m xs) (hbase : base ≤ U.heap.size) (hpb : pb < base) (hsb : sb < base) (hqb : vo.ownBlock ≠ some qb) (hm : m ≤ 1000000)
  (hren : Calls Tryz.prog 164 #[.agg #[.int .i64 oo, .int .i64 nn, .string tt, .slice ka kn kc], .pointer vqp] U.drew fun e W' => (∃ v2, e = .returned v2 ∧ PtNew U.drew W' T v2) ∧ Below U.drew.heap.size U.drew W')
  (hK : ∀ (u67 u68 u69 u70 u71 u72 u73 u74 u75 u76 u77 u78 c0 c1 c2 c3 v' : Value) (w1 w3 : World), PtNew U w1 T (.agg #[c0, c1, c2, c3]) → Below U.heap.size U w1 → w3.ownsRow base 35 4 v' (m + 1) (xs ++ [c0, c1, c2, c3]) → (w1.alloc (.cells #[c0, c1, c2, c3] 35)).grownBy w3 vo.ownBlock → (v'.ownBlock = vo.ownBlock ∨ v'.ownBlock = some (w1.alloc (.cells #[c0, c1, c2, c3] 35)).heap.size) →
   Q .normal { tmps := ((((((((((((a.tmps.setIfInBounds 67 u67).setIfInBounds 68 u68).setIfInBounds 69 u69).setIfInBounds 70 u70).setIfInBounds 71 u71).setIfInBounds 72 u72).setIfInBounds 73 u73).setIfInBounds 74 u74).setIfInBounds 75 u75).setIfInBounds 76 u76).setIfInBounds 77 u77).setIfInBounds 78 u78), defers := a.defers } (w3.setCell ⟨pb, 4, none⟩ v')) :
  (Code.region 17 ops139 true).wp Tryz.prog Q a U := by
 obtain ⟨i0, hi, hz0, hz1, hz2⟩ := info_parts Tz.info35
 have hwrap : IntKind.i64.wrap ((k : Int) + 1) = (k : Int) + 1 := by rw [IntKind.wrap_i64]; omega
 have hnat : ((k : Int) + 1).toNat = k + 1 := by omega
 have hk0 : (0 : Int) ≤ (k : Int) + 1 := by omega
 have hk1 : ((k : Int) + 1) < (n : Int) := by omega
 have hS0 : (U.drew.cell? ⟨qb, 0, none⟩ = some (.int .i64 oo) ∧ U.drew.cell? ⟨qb, 1, none⟩ = some (.int .i64 nn) ∧ U.drew.cell? ⟨qb, 2, none⟩ = some (.string tt) ∧ U.drew.cell? ⟨qb, 3, none⟩ = some (.slice ka kn kc)) ∧ U.drew.cell? ⟨sb, k + 1, none⟩ = some (.pointer vqp) ∧ U.drew.cell? ⟨pb, 4, none⟩ = some vo :=
  ⟨cells4 (W := U.drew) hq, (cell_box (W := U.drew) hs).trans hc, cell_box (W := U.drew) hbx⟩
 have HBX := lh hbx; have HQ := lh hq; have HS := lh hs; have HC := lh hc; have HROW := lh hrow; have HREN := lh hren; have HK := lh hK; have HSZ := lh hsz
 clear hbx hq hs hc hrow hren hK
 have lq := lt_of_block HQ.out; have lp := lt_of_block HBX.out; have ls := lt_of_block HS.o
 refine wp_region_z (fun w' => (w'.cell? ⟨qb, 0, none⟩ = some (.int .i64 oo) ∧ w'.cell? ⟨qb, 1, none⟩ = some (.int .i64 nn) ∧ w'.cell? ⟨qb, 2, none⟩ = some (.string tt) ∧ w'.cell? ⟨qb, 3, none⟩ = some (.slice ka kn kc)) ∧ w'.cell? ⟨sb, k + 1, none⟩ = some (.pointer vqp) ∧ w'.cell? ⟨pb, 4, none⟩ = some vo) 12 (by kernel_rfl) ?_
 refine wpAnyZ_take 0 (oi := r139x0) hS0 rfl (by kernel_rfl) (by kernel_rfl) (by kernel_rfl) (fun c a w h => hQ c _ _ a w h) (by kernel_rfl) rfl (by rfl) (by intro w' hSw; go_simp <;> rfl) ?_
 refine wpAnyZ_take 1 (oi := r139x1) hS0 rfl (by kernel_rfl) (by kernel_rfl) (by kernel_rfl) (fun c a w h => hQ c _ _ a w h) (by kernel_rfl) rfl (by rfl) (by intro w' hSw; go_simp <;> rfl) ?_
 refine wpAnyZ_take 2 (oi := r139x2) hS0 rfl (by kernel_rfl) (by kernel_rfl) (by kernel_rfl) (fun c a w h => hQ c _ _ a w h) (by kernel_rfl) rfl (by rfl) (by intro w' hSw; go_simp <;> rfl) ?_
 refine wpAnyZ_take 3 (oi := r139x3) hS0 rfl (by kernel_rfl) (by kernel_rfl) (by kernel_rfl) (fun c a w h => hQ c _ _ a w h) (by kernel_rfl) rfl (by rfl) (by intro w' hSw; go_simp <;> rfl) ?_
 refine wpAnyZ_take 4 (oi := r139x4) hS0 rfl (by kernel_rfl) (by kernel_rfl) (by kernel_rfl) (fun c a w h => hQ c _ _ a w h) (by kernel_rfl) rfl (by rfl) (by intro w' hSw; go_simp <;> rfl) ?_
 refine wpAnyZ_take 5 (oi := r139x5) hS0 rfl (by kernel_rfl) (by kernel_rfl) (by kernel_rfl) (fun c a w h => hQ c _ _ a w h) (by kernel_rfl) rfl (by rfl) (by intro w' hSw; go_simp <;> rfl) ?_
 refine wpAnyZ_take 6 (oi := r139x6) hS0 rfl (by kernel_rfl) (by kernel_rfl) (by kernel_rfl) (fun c a w h => hQ c _ _ a w h) (by kernel_rfl) rfl (by rfl) (by intro w' hSw; go_simp <;> rfl) ?_
 refine wpAnyZ_take 7 (oi := r139x7) hS0 rfl (by kernel_rfl) (by kernel_rfl) (by kernel_rfl) (fun c a w h => hQ c _ _ a w h) (by kernel_rfl) rfl (by rfl) (by intro w' hSw; go_simp <;> rfl) ?_
 refine wpAnyZ_one 8 (o := r139x8) (by kernel_rfl) rfl fun KK hKK => ?_
 go_simp
 refine HREN.o.mono ?_
 rintro e w1 ⟨⟨v2, rfl, hnew⟩, hb1⟩
 obtain ⟨o2, n2, t2, ka2, kn2, kc2, rfl⟩ := PtIn.shape hnew
 have hbU1 : Below U.heap.size U w1 := (below_drew _ _).trans hb1
 have hs1 := hbU1.size
 have HQ1 := lh (bget' hbU1 HQ.o); have HS1 := lh (bget' hbU1 HS.o); have HBX1 := lh (bget' hbU1 HBX.o)
 have HR1 := lh (ownsRow_of_block (w' := w1) HROW.o fun g hg => hbU1.block g (HROW.o.lt g hg).2)
 have HR2 := lh (HR1.o.alloc (.cells #[.int .i64 o2, .int .i64 n2, .string t2, .slice ka2 kn2 kc2] 35))
 have HNW := lh (cells_new w1 [.int .i64 o2, .int .i64 n2, .string t2, .slice ka2 kn2 kc2] 35)
 have HONE := lh (show ∀ u ∈ [Value.int .i64 o2, .int .i64 n2, .string t2, .slice ka2 kn2 kc2], u.oneCell' = true by intro u hu; simp at hu; rcases hu with rfl | rfl | rfl | rfl <;> rfl)
 have HNEW := lh hnew; have HBU1 := lh hbU1

 have hS1 : (w1.cell? ⟨qb, 0, none⟩ = some (.int .i64 oo) ∧ w1.cell? ⟨qb, 1, none⟩ = some (.int .i64 nn) ∧ w1.cell? ⟨qb, 2, none⟩ = some (.string tt) ∧ w1.cell? ⟨qb, 3, none⟩ = some (.slice ka kn kc)) ∧ w1.cell? ⟨sb, k + 1, none⟩ = some (.pointer vqp) ∧ w1.cell? ⟨pb, 4, none⟩ = some vo := ⟨cells4 HQ1.o, (cell_box HS1.o).trans HC.o, cell_box HBX1.o⟩
 clear hnew hb1 hbU1 hS0 HREN
 refine hKK.o _ _ (fun _ => hS1) ?_
 clear hKK KK
 refine wpAnyZ_one 9 (o := r139x9) (by kernel_rfl) rfl fun KK hKK => ?_
 go_simp
 refine hKK.o _ _ (fun _ => ⟨cells4 ((Below.heap_alloc _ _ _ (by omega)).trans HQ1.o), (cell_box ((Below.heap_alloc _ _ _ (by omega)).trans HS1.o)).trans HC.o, cell_box ((Below.heap_alloc _ _ _ (by omega)).trans HBX1.o)⟩) ?_
 clear hKK KK hS1
 refine wpAnyZ_one 10 (o := r139x10) (by kernel_rfl) rfl fun KK hKK => ?_
 refine step_append_lies _ (by rfl) _ _ _ (by rfl) base 35 i0 _ 4 56 Tryz.underlying30 hi hz0 hz1 hz2 rfl (by decide) vo m xs (by go_simp) HR2.o ⟨w1.heap.size, 0, none⟩ 1 1 [.int .i64 o2, .int .i64 n2, .string t2, .slice ka2 kn2 kc2] (by go_simp) (by rfl) HNW.o HONE.o (by decide) (by unfold maxLen; omega) (by omega) (by simp <;> omega) _ rfl ?_
 intro gg cap2 w3 hown3 hgr3 hat3 hlt3
 have HQ3 := lh ((hgr3.block _ (by simp <;> omega) (fun e => hqb e.symm)).trans ((Below.heap_alloc _ _ _ (by omega)).trans HQ1.o))
 have HS3 := lh (one_grown hgr3 HS1.o (by omega) HR1.o (by omega))
 have HBX3 := lh (one_grown hgr3 HBX1.o (by omega) HR1.o (by omega))
 have hpc3 : w3.cell? ⟨pb, 4, none⟩ = some vo := cell_box HBX3.o
 have hpf3 := free_box HBX3.o 4
 have HOWN3 := lh hown3; have HGR3 := lh hgr3
 have HAT3 := lh (show (Value.slice (some ⟨gg, 0, none⟩) (m + 1) cap2).ownBlock = vo.ownBlock ∨ (Value.slice (some ⟨gg, 0, none⟩) (m + 1) cap2).ownBlock = some (w1.alloc (.cells #[.int .i64 o2, .int .i64 n2, .string t2, .slice ka2 kn2 kc2] 35)).heap.size from hat3.imp (fun h => h.symm) (fun h => by rw [h]; rfl))
 have hS3 : (w3.cell? ⟨qb, 0, none⟩ = some (.int .i64 oo) ∧ w3.cell? ⟨qb, 1, none⟩ = some (.int .i64 nn) ∧ w3.cell? ⟨qb, 2, none⟩ = some (.string tt) ∧ w3.cell? ⟨qb, 3, none⟩ = some (.slice ka kn kc)) ∧ w3.cell? ⟨sb, k + 1, none⟩ = some (.pointer vqp) ∧ w3.cell? ⟨pb, 4, none⟩ = some vo := ⟨cells4 HQ3.o, (cell_box HS3.o).trans HC.o, hpc3⟩
 clear hown3 hgr3 hat3
 refine hKK.o _ _ (fun _ => hS3) ?_
 clear hKK KK
 refine wpAnyZ_take 11 (oi := r139x11) hS3 rfl (by kernel_rfl) (by kernel_rfl) (by kernel_rfl) (fun c a w h => hQ c _ _ a w h) (by kernel_rfl) rfl (by rfl) (by intro w' hSw; go_simp <;> rfl) ?_
 clear hS3
 refine wpAnyZ_one 12 (o := r139x12) (by kernel_rfl) rfl fun KK hKK => ?_
 go_simp
 refine hKK.o _ _ (fun h => absurd rfl h) ?_
 refine wpAnyZ_done (by kernel_rfl) ?_ _
 exact HK.o _ _ _ _ _ _ _ _ _ _ _ _ _ _ _ _ _ _ _ HNEW.o HBU1.o HOWN3.o HGR3.o HAT3.o
end Go.Proofs.YtjpahjfjpkbcnaaGreat
namespace Go.Proofs.YtjpahjfjpkbcnaaGreat
open Go.Proofs Go.RowKit
attribute [local go_sem] eval_put_same eval_put_ne size_put
theorem region_round_z {P : Program} {ops : Array Oper} {Q : Exit → Act → World → Prop} {l n id : Nat} (S : World → Prop) (z : Nat) {a : Act} {w : World} (hm : P.follows .mixedOrders = true)
  (hd : ∀ (i : Nat) (o : Oper), ops[i]? = some o → ∀ c, o.op ≠ .defer c) (ho : ¬ LetsOut Q)
  (h : wpAnyZ P .any ops Q S z ops.size (Array.replicate ops.size false) a w.drew) : (Code.region id ops true).wpIn (Fence.wide.inRound l) n P Q a w :=
 wpIn_region_any hm (wpAny_round hd ho _ _ _ _ (wpAny_of_z _ _ _ _ h))
theorem run_append_nil {P : Program} (w : World) (base : Nat) (t ty e : TypeId) (i : TypeInfo) (size : Nat) (ht : P.underlying t = some (.slice e)) (hi : P.info? e = some i) (v : Value) (n : Nat) (xs : List Value) (hown : w.ownsRow base e size v n xs) :
  (Builtin.append_ #[t, t] ty #[v, .slice none 0 0]).run P w = .ok v w := by
 rcases hown.2 with ⟨rfl, rfl⟩ | ⟨g, cap, cur, rfl, -, -, hn, -⟩
 ·simp [Builtin.append_, run_underlying ht, sizeOf, typeInfo, hi, Builtin.lenOf, Builtin.firstCells]
 ·simp [Builtin.append_, run_underlying ht, sizeOf, typeInfo, hi, Builtin.lenOf, Builtin.firstCells, hn, storeCells]
def AppSrc (w : World) (size : Nat) (x : Value) (m : Nat) (news : List Value) : Prop :=
 (x = .slice none 0 0 ∧ m = 0 ∧ news = []) ∨ ∃ ad c, x = .slice (some ad) m c ∧ news.length = m * size ∧ (∀ j u, news[j]? = some u → w.cell? (ad.add j) = some u) ∧ ∀ u ∈ news, u.oneCell' = true
theorem run_append_any {P : Program} (w : World) (base : Nat) (t ty e : TypeId) (i : TypeInfo) (z : Value) (size bytes : Nat) (ht : P.underlying t = some (.slice e)) (hi : P.info? e = some i) (hz : i.zero = some z)
  (hsize : i.size = size) (hby : i.bytes = bytes) (hzs : z.cells.size = size) (hsz : 0 < size)
  (v : Value) (n : Nat) (xs : List Value) (hown : w.ownsRow base e size v n xs) (x : Value) (m : Nat) (news : List Value) (hx : AppSrc w size x m news)
  (h63 : n + m ≤ maxLen) (hbytes : (n + m) * bytes ≤ 140737488355328) (hbase : base ≤ w.heap.size) :
  ∃ v' w', (Builtin.append_ #[t, t] ty #[v, x]).run P w = .ok v' w' ∧ w'.ownsRow base e size v' (n + m) (xs ++ news) ∧ w.grownBy w' v.ownBlock ∧ (v'.ownBlock = v.ownBlock ∨ v'.ownBlock = some w.heap.size) := by
 rcases hx with ⟨rfl, rfl, rfl⟩ | ⟨ad, c, rfl, hl, hnews, h1⟩
 ·exact ⟨v, w, run_append_nil w base t ty e i size ht hi v n xs hown, by simpa using hown, ⟨rfl, rfl, rfl, Nat.le_refl _, fun _ _ _ => rfl⟩, .inl rfl⟩
 ·obtain ⟨v', w', hr, h2, h3, -, h5⟩ := run_append_own_at (P := P) w base t ty e i z size bytes ht hi hz hsize hby hzs hsz v n xs hown ad m c news hl hnews h1 h63 hbytes hbase
  exact ⟨v', w', hr, h2, h3, h5⟩
theorem step_append_any {P : Program} (w : World) {ops : Array Oper} {o : Oper} {a : Act} {K : Act → World → Prop} {Q : Exit → Act → World → Prop} {E : Prop} (hgd : o.guard = none) (s x : Operand) (t : TypeId)
  (ho : o.op = .call { callee := .builtin .append, args := #[s, x], argTypes := #[t, t] })
  (base : Nat) (e : TypeId) (i : TypeInfo) (z : Value) (size bytes : Nat) (ht : P.underlying t = some (.slice e)) (hi : P.info? e = some i) (hz : i.zero = some z)
  (hsize : i.size = size) (hby : i.bytes = bytes) (hzs : z.cells.size = size) (hsz : 0 < size)
  (v : Value) (n : Nat) (xs : List Value) (hs : a.eval s = v) (hown : w.ownsRow base e size v n xs) (xv : Value) (m : Nat) (news : List Value) (hx : a.eval x = xv) (hsrc : AppSrc w size xv m news)
  (h63 : n + m ≤ maxLen) (hbytes : (n + m) * bytes ≤ 140737488355328) (hbase : base ≤ w.heap.size)
  (h : ∀ v' w', w'.ownsRow base e size v' (n + m) (xs ++ news) → w.grownBy w' v.ownBlock → (v'.ownBlock = v.ownBlock ∨ v'.ownBlock = some w.heap.size) → K (a.put o.dst v') w') :
  if Region.wanted o (yielded ops a.tmps) = true then Oper.wp P o a w K Q else E := by
 have hw : Region.wanted o (yielded ops a.tmps) = true := by simp [Region.wanted, hgd]
 rw [if_pos hw]
 obtain ⟨v', w', hr, h2, h3, h5⟩ := run_append_any (P := P) w base t o.type e i z size bytes ht hi hz hsize hby hzs hsz v n xs hown xv m news hsrc h63 hbytes hbase
 unfold Oper.wp execOp
 simp only [ho, resolve, invoke, builtin, Sem.run_bind, Sem.run_pure, Result.andThen_ok, List.map_toArray, List.map_cons, List.map_nil, hs, hx, hr]
 exact h v' w' h2 h3 h5
theorem StrsAt.cells {w : World} : ∀ (ss : List ByteArray) (b o : Nat), StrsAt w ss b o → ∀ j u, (ss.map Value.string)[j]? = some u → w.cell? ⟨b, o + j, none⟩ = some u
 | s :: ss, b, o, h, 0, u, hu => by simp at hu; subst hu; exact h.1.1
 | s :: ss, b, o, h, j + 1, u, hu => by
  have := StrsAt.cells ss b (o + 1) h.2 j u (by simpa using hu)
  rwa [show o + 1 + j = o + (j + 1) by omega] at this
theorem strs_src {B : Nat → Prop} {w : World} {x : Value} {ss : List ByteArray} (h : SlIn B x ss.length fun b o => StrsAt w ss b o) : AppSrc w 1 x ss.length (ss.map Value.string) := by
 rcases h with ⟨h1, h2⟩ | ⟨b, o, cap, h1, h2, h3, h4, h5⟩
 ·have : ss = [] := List.eq_nil_of_length_eq_zero h1
  subst this
  exact .inl ⟨h2, rfl, rfl⟩
 ·refine .inr ⟨⟨b, o, none⟩, cap, h1, by simp, fun j u hj => ?_, string_one ss⟩
  have ha : ((⟨b, o, none⟩ : Addr).add j) = ⟨b, o + j, none⟩ := by unfold Addr.add; split <;> simp_all
  rw [ha]
  exact StrsAt.cells ss b o h5 j u hj
def r165x0 : Oper := { dst := some 25, op := Op.load 22 (Operand.tmp 3), type := 22, pos := "bound.go:104", after := #[], guard := none }
def r165x1 : Oper := { dst := some 26, op := Op.load 32 (Operand.tmp 5), type := 32, pos := "bound.go:104", after := #[], guard := none }
def r165x2 : Oper := { dst := some 27, op := Op.move (Operand.tmp 6), type := 3, pos := "bound.go:104", after := #[], guard := none }
def r165x3 : Oper := { dst := some 28, op := Op.call { callee := Callee.value (Operand.func 159), args := #[Operand.tmp 26, Operand.tmp 27], argTypes := #[32, 3] }, type := 22, pos := "bound.go:104", after := #[{ on := 1, ground := Ground.data }, { on := 2, ground := Ground.data }], guard := none }
def r165x4 : Oper := { dst := some 29, op := Op.call { callee := Callee.builtin Builtin.append, args := #[Operand.tmp 25, Operand.tmp 28], argTypes := #[22, 22] }, type := 22, pos := "bound.go:104", after := #[{ on := 0, ground := Ground.data }, { on := 3, ground := Ground.data }, { on := 3, ground := Ground.chain }], guard := none }
def r165x5 : Oper := { dst := none, op := Op.store 22 (Operand.tmp 3) (Operand.tmp 29), type := 0, pos := "bound.go:104", after := #[{ on := 4, ground := Ground.data }, { on := 4, ground := Ground.chain }, { on := 0, ground := Ground.phase }, { on := 1, ground := Ground.phase }, { on := 2, ground := Ground.phase }, { on := 3, ground := Ground.phase }, { on := 4, ground := Ground.phase }], guard := none }
def ops165 : Array Oper := #[r165x0, r165x1, r165x2, r165x3, r165x4, r165x5]
attribute [local go_sem] r165x0 r165x1 r165x2 r165x3 r165x4 r165x5
set_option maxHeartbeats 2000000 in
theorem reg165 {Q : Exit → Act → World → Prop} {a : Act} {U : World} {l ob qb k m base : Nat} {vo : Value} {oo nn : Int} {tt : ByteArray} {ka : Option Addr} {kn kc : Nat} {pa : Option Addr} {pn pc : Nat} {xs : List Value} {bl : List ByteArray}
  (hsz : a.tmps.size = 32) (h3 : a.tmps[3]'(by omega) = .pointer (some ⟨ob, 0, none⟩)) (h5 : a.tmps[5]'(by omega) = .pointer (some ⟨qb, 0, none⟩)) (h6 : a.tmps[6]'(by omega) = .int .i64 k)
  (hQ : ∀ c (d : Nat) v (a : Act) w, Q (.panic c) (a.put (some d) v) w → Q (.panic c) a w) (hout : ¬ LetsOut Q)
  (hbx : U.heap[ob]? = some (.cells #[vo] 22 (0, 0))) (hq : U.heap[qb]? = some (.cells #[.int .i64 oo, .int .i64 nn, .string tt, .slice ka kn kc, .slice pa pn pc] 32 (0, 0)))
  (hrow : U.ownsRow base 9 1 vo m xs) (hbase : base ≤ U.heap.size) (hob : ob < base) (hqb : vo.ownBlock ≠ some qb) (hm : m + bl.length ≤ 1000000)
  (hbi : Calls Tryz.prog 159 #[.agg #[.int .i64 oo, .int .i64 nn, .string tt, .slice ka kn kc, .slice pa pn pc], .int .i64 k] U.drew fun e W' => (∃ v', e = .returned v' ∧ SlIn (Fresh U.drew W') v' bl.length fun b o => StrsAt W' bl b o) ∧ Below U.drew.heap.size U.drew W')
  (hK : ∀ (u25 u26 u27 u28 u29 v' : Value) (w1 w3 : World), Below U.heap.size U w1 → w3.ownsRow base 9 1 v' (m + bl.length) (xs ++ bl.map Value.string) → w1.grownBy w3 vo.ownBlock → (v'.ownBlock = vo.ownBlock ∨ v'.ownBlock = some w1.heap.size) →
   Q .normal { tmps := (((((a.tmps.setIfInBounds 25 u25).setIfInBounds 26 u26).setIfInBounds 27 u27).setIfInBounds 28 u28).setIfInBounds 29 u29), defers := a.defers } (w3.setCell ⟨ob, 0, none⟩ v')) :
  (Code.region 9 ops165 true).wpIn (Fence.wide.inRound l) 0 Tryz.prog Q a U := by
 obtain ⟨i0, hi, hz0, hz1, hz2⟩ := info_parts Tz.info9
 have hS0 : U.drew.cell? ⟨ob, 0, none⟩ = some vo ∧ (U.drew.cell? ⟨qb, 0, none⟩ = some (.int .i64 oo) ∧ U.drew.cell? ⟨qb, 1, none⟩ = some (.int .i64 nn) ∧ U.drew.cell? ⟨qb, 2, none⟩ = some (.string tt) ∧ U.drew.cell? ⟨qb, 3, none⟩ = some (.slice ka kn kc) ∧ U.drew.cell? ⟨qb, 4, none⟩ = some (.slice pa pn pc)) := ⟨cell_box (W := U.drew) hbx, cells5 (W := U.drew) hq⟩
 have HBX := lh hbx; have HQ := lh hq; have HROW := lh hrow; have HBI := lh hbi; have HK := lh hK
 clear hbx hq hrow hbi hK
 have lq := lt_of_block HQ.out; have lp := lt_of_block HBX.o
 refine region_round_z (fun w' => w'.cell? ⟨ob, 0, none⟩ = some vo ∧ (w'.cell? ⟨qb, 0, none⟩ = some (.int .i64 oo) ∧ w'.cell? ⟨qb, 1, none⟩ = some (.int .i64 nn) ∧ w'.cell? ⟨qb, 2, none⟩ = some (.string tt) ∧ w'.cell? ⟨qb, 3, none⟩ = some (.slice ka kn kc) ∧ w'.cell? ⟨qb, 4, none⟩ = some (.slice pa pn pc))) 5 (by kernel_rfl) (fun i o ho c hc => ?hd) hout ?_
 case hd =>
  have hlt := (Array.getElem?_eq_some_iff.1 ho).1
  have hi6 : i < 6 := hlt
  have h6 : i = 0 ∨ i = 1 ∨ i = 2 ∨ i = 3 ∨ i = 4 ∨ i = 5 := by omega
  rcases h6 with rfl | rfl | rfl | rfl | rfl | rfl <;> (cases ho; cases hc)
 refine wpAnyZ_take 0 (oi := r165x0) hS0 rfl (by kernel_rfl) (by kernel_rfl) (by kernel_rfl) (fun c a w h => hQ c _ _ a w h) (by kernel_rfl) rfl (by rfl) (by intro w' hSw; go_simp <;> rfl) ?_
 refine wpAnyZ_take 1 (oi := r165x1) hS0 rfl (by kernel_rfl) (by kernel_rfl) (by kernel_rfl) (fun c a w h => hQ c _ _ a w h) (by kernel_rfl) rfl (by rfl) (by intro w' hSw; go_simp <;> rfl) ?_
 refine wpAnyZ_take 2 (oi := r165x2) hS0 rfl (by kernel_rfl) (by kernel_rfl) (by kernel_rfl) (fun c a w h => hQ c _ _ a w h) (by kernel_rfl) rfl (by rfl) (by intro w' hSw; go_simp <;> rfl) ?_
 refine wpAnyZ_one 3 (o := r165x3) (by kernel_rfl) rfl fun KK hKK => ?_
 go_simp
 refine HBI.o.mono ?_
 rintro e w1 ⟨⟨xv, rfl, hxv⟩, hb1⟩
 have hbU1 : Below U.heap.size U w1 := (below_drew _ _).trans hb1
 have hs1 := hbU1.size
 have HQ1 := lh (bget' hbU1 HQ.o); have HBX1 := lh (bget' hbU1 HBX.o)
 have HR1 := lh (ownsRow_of_block (w' := w1) HROW.o fun g hg => hbU1.block g (HROW.o.lt g hg).2)
 have HSRC := lh (strs_src hxv)
 have HBU1 := lh hbU1
 have hS1 : w1.cell? ⟨ob, 0, none⟩ = some vo ∧ (w1.cell? ⟨qb, 0, none⟩ = some (.int .i64 oo) ∧ w1.cell? ⟨qb, 1, none⟩ = some (.int .i64 nn) ∧ w1.cell? ⟨qb, 2, none⟩ = some (.string tt) ∧ w1.cell? ⟨qb, 3, none⟩ = some (.slice ka kn kc) ∧ w1.cell? ⟨qb, 4, none⟩ = some (.slice pa pn pc)) := ⟨cell_box HBX1.o, cells5 HQ1.o⟩
 obtain ⟨xa, xc, rfl⟩ := hxv.split
 clear hb1 hbU1 hS0 HBI hxv
 refine hKK.o _ _ (fun _ => hS1) ?_
 clear hKK KK hS1
 refine wpAnyZ_one 4 (o := r165x4) (by kernel_rfl) rfl fun KK hKK => ?_
 refine step_append_any _ (by rfl) _ _ _ (by rfl) base 9 i0 _ 1 16 Tz.underlying22 hi hz0 hz1 hz2 rfl (by decide) vo m xs (by go_simp) HR1.o (.slice xa bl.length xc) bl.length (bl.map Value.string) (by go_simp) HSRC.o (by unfold maxLen; omega) (by omega) (by omega) ?_
 intro v' w3 hown3 hgr3 hat3
 obtain ⟨va, vc, rfl⟩ := slice_of_row hown3
 have HBX3 := lh ((hgr3.block _ (by omega) (fun e => by have := (HROW.o.lt _ e.symm).1; omega)).trans HBX1.o)
 have hpc3 : w3.cell? ⟨ob, 0, none⟩ = some vo := cell_box HBX3.o
 have hpf3 := free_box HBX3.o 0
 have HOWN3 := lh hown3; have HGR3 := lh hgr3; have HAT3 := lh hat3
 have HQ3 := lh ((hgr3.block _ (by omega) (fun e => hqb e.symm)).trans HQ1.o)
 have hS3 : w3.cell? ⟨ob, 0, none⟩ = some vo ∧ (w3.cell? ⟨qb, 0, none⟩ = some (.int .i64 oo) ∧ w3.cell? ⟨qb, 1, none⟩ = some (.int .i64 nn) ∧ w3.cell? ⟨qb, 2, none⟩ = some (.string tt) ∧ w3.cell? ⟨qb, 3, none⟩ = some (.slice ka kn kc) ∧ w3.cell? ⟨qb, 4, none⟩ = some (.slice pa pn pc)) := ⟨cell_box HBX3.o, cells5 HQ3.o⟩
 clear hown3 hgr3 hat3
 refine hKK.o _ _ (fun _ => hS3) ?_
 clear hKK KK hS3
 refine wpAnyZ_one 5 (o := r165x5) (by kernel_rfl) rfl fun KK hKK => ?_
 go_simp
 refine hKK.o _ _ (fun h => absurd rfl h) ?_
 refine wpAnyZ_done (by kernel_rfl) ?_ _
 exact HK.o _ _ _ _ _ _ _ _ HBU1.o HOWN3.o HGR3.o HAT3.o
end Go.Proofs.YtjpahjfjpkbcnaaGreat
namespace Go.Proofs.YtjpahjfjpkbcnaaGreat
open Go.Proofs Go.RowKit
attribute [local go_sem] Oper.semAt_some
def bndL (T : Tm) : Nat → List ByteArray
 | 0 => []
 | k + 1 => bndL T k ++ boundL T k
def standN (T : Tm) : List ByteArray := (if T.op = 4 then [T.text] else []) ++ bndL T T.kids.length
def standLs : List Tm → List ByteArray
 | [] => []
 | t :: ts => standN t ++ standLs ts
def standL (T : Tm) : List ByteArray := standLs ((partsM 1 T).map (·.2))
theorem standLs_append : ∀ (xs ys : List Tm), standLs (xs ++ ys) = standLs xs ++ standLs ys
 | [], _ => rfl
 | x :: xs, ys => by simp [standLs, standLs_append xs ys]
theorem bndL_le (T : Tm) : ∀ {k m : Nat}, k ≤ m → (bndL T k).length ≤ (bndL T m).length
 | k, 0, h => by obtain rfl : k = 0 := by omega
                 exact Nat.le_refl _
 | k, m + 1, h => by
  by_cases e : k = m + 1
  ·subst e; exact Nat.le_refl _
  ·have := bndL_le T (k := k) (m := m) (by omega)
   simp only [bndL, List.length_append]; omega
mutual
theorem okN_parts : ∀ (T : Tm) (d : Int), okN T → ∀ x ∈ partsM d T, okN x.2
 | .mk op n text kids pats, d, h, x, hx => by
  unfold partsM at hx
  rcases List.mem_cons.1 hx with rfl | hx
  ·exact h
  ·unfold okN at h
   exact okNs_parts kids (d + 1) h.2.2.2.2.2 x hx
theorem okNs_parts : ∀ (ts : List Tm) (d : Int), okNs ts → ∀ x ∈ partssM d ts, okN x.2
 | [], _, _, x, hx => by unfold partssM at hx; cases hx
 | t :: ts, d, h, x, hx => by
  unfold okNs at h
  unfold partssM at hx
  rcases List.mem_append.1 hx with hx | hx
  ·exact okN_parts t d h.1 x hx
  ·exact okNs_parts ts d h.2 x hx
end
theorem boundL_size {n₀ : Nat} {w : World} {T : Tm} {v : Value} (hT : TmAt n₀ w T v) (k : Nat) : ∀ s ∈ boundL T k, s.size ≤ maxLen := by
 obtain ⟨a, cap, a', cap', rfl, htx, hk, hps⟩ := hT.parts
 intro s hs
 unfold boundL at hs
 split at hs
 ·simp at hs; subst hs; exact htx
 ·split at hs
  ·cases hp : T.pats[k - 1]? with
   | none => rw [hp] at hs; simp at hs
   | some p =>
    rw [hp] at hs
    simp at hs
    have hlt : k - 1 < T.pats.length := (List.getElem?_eq_some_iff.1 hp).1
    have hpe : T.pats[k - 1] = p := (List.getElem?_eq_some_iff.1 hp).2
    rcases hps with ⟨h, -⟩ | ⟨b, o, cap2, h1, h2, h3, h4, h5⟩
    ·omega
    ·obtain ⟨c0, c1, c2, c3, g0, g1, g2, g3, ht⟩ := PtsAt.get T.pats b o h5 (k - 1) hlt
     rw [hpe] at ht
     unfold namesP namesL at hs
     simp only [List.mem_map, List.mem_filter] at hs
     obtain ⟨q, ⟨⟨x, hx, rfl⟩, -⟩, rfl⟩ := hs
     have hseg := segP_at p _ 1 ht
     have hmp := segP_map w p 1 (.agg #[c0, c1, c2, c3])
     rw [← hmp] at hx
     obtain ⟨y, hy, rfl⟩ := List.mem_map.1 hx
     obtain ⟨_, _, _, hsz⟩ := (hseg y hy).parts
     exact hsz
  ·cases hs
theorem bndL_size {n₀ : Nat} {w : World} {T : Tm} {v : Value} (hT : TmAt n₀ w T v) : ∀ k, ∀ s ∈ bndL T k, s.size ≤ maxLen
 | 0, s, h => by cases h
 | k + 1, s, h => by
  rcases List.mem_append.1 h with h | h
  ·exact bndL_size hT k s h
  ·exact boundL_size hT k s h
set_option maxHeartbeats 4000000 in
set_option maxRecDepth 100000 in
theorem standing_any (T : Tm) (v : Value) (w : World) (hT : TmAt w.heap.size w T v) (hh : heightM T ≤ 1000) (hok : okN T) (hl : (standL T).length ≤ 1000000) :
  CallsIn Fence.wide 0 Tryz.prog 165 #[v] w fun e w' => (∃ v', e = .returned v' ∧ SlIn (Fresh w w') v' (standL T).length fun b o => StrsAt w' (standL T) b o) ∧ Below w.heap.size w w' := by
 obtain ⟨i0, hi, hz0, hz1, hz2⟩ := info_parts Tz.info9
 obtain ⟨a, cap, a', cap', rfl, htx, -, -⟩ := hT.parts
 refine calls_of_wpF Tryz.func165 rfl ?_
 simp only [Tryz.ntmps165, List.size_toArray, List.length_cons, List.length_nil, Nat.reduceAdd, Nat.reduceSub, Array.replicate_succ, Array.replicate_zero, List.push_toArray, List.append_toArray, List.nil_append, List.cons_append]
 refine wpF_seq ?_
 intro K hK
 refine wpF_of (n := 0) ?_
 gi_wp2
 refine wpF_seq ?_
 intro K hK
 refine wpF_of (n := 0) ?_
 gi_wp2
 have hbW : Below w.heap.size w ((w.alloc (.cells #[.int .i64 T.op, .int .i64 T.n, .string T.text, .slice a T.kids.length cap, .slice a' T.pats.length cap'] 32)).alloc (.cells #[.slice none 0 0] 22)) := ((Below.refl _ w).alloc (Nat.le_refl _) _).alloc (by simp) _
 have hsW : ((w.alloc (.cells #[.int .i64 T.op, .int .i64 T.n, .string T.text, .slice a T.kids.length cap, .slice a' T.pats.length cap'] 32)).alloc (.cells #[.slice none 0 0] 22)).heap.size = w.heap.size + 2 := by simp
 have hoW : ((w.alloc (.cells #[.int .i64 T.op, .int .i64 T.n, .string T.text, .slice a T.kids.length cap, .slice a' T.pats.length cap'] 32)).alloc (.cells #[.slice none 0 0] 22)).heap[w.heap.size + 1]? = some (.cells #[.slice none 0 0] 22 (0, 0)) := by
  have := heap_alloc_new (w.alloc (.cells #[.int .i64 T.op, .int .i64 T.n, .string T.text, .slice a T.kids.length cap, .slice a' T.pats.length cap'] 32)) (.cells #[.slice none 0 0] 22); simpa using this
 have hBW : ((w.alloc (.cells #[.int .i64 T.op, .int .i64 T.n, .string T.text, .slice a T.kids.length cap, .slice a' T.pats.length cap'] 32)).alloc (.cells #[.slice none 0 0] 22)).heap[w.heap.size]? = some (.cells #[.int .i64 T.op, .int .i64 T.n, .string T.text, .slice a T.kids.length cap, .slice a' T.pats.length cap'] 32 (0, 0)) := by
  rw [Below.heap_alloc _ _ _ (by simp)]; exact heap_alloc_new _ _
 generalize ((w.alloc (.cells #[.int .i64 T.op, .int .i64 T.n, .string T.text, .slice a T.kids.length cap, .slice a' T.pats.length cap'] 32)).alloc (.cells #[.slice none 0 0] 22)) = W at *
 obtain ⟨c0, c1, c2, c3, c4⟩ := cells5 hBW
 have HSW := lh hsW; have HOW := lh hoW; have HOK := lh hok; have HL := lh hl
 clear hsW hoW hBW hok hl
 refine wpF_seq ?_
 intro K hK
 refine wpF_seq ?_
 intro K2 hK2'
 refine wpF_of (n := 0) ?_
 gi_wp2_with fail
 refine ⟨trivial, rfl, (callsIn_wide.2 (partsM_any W T.op T.n T.text (.slice a T.kids.length cap) (.slice a' T.pats.length cap'))).mono ?_⟩
 rintro e W2 ⟨rfl, hW2⟩
 have hs2 : W2.heap.size = w.heap.size + 4 := by rw [hW2]; simp [HSW.o]
 have hbWW : Below W.heap.size W W2 := by rw [hW2]; exact ((Below.refl _ W).alloc (Nat.le_refl _) _).alloc (by simp) _
 have hb2 : Below w.heap.size w W2 := hbW.trans (hbWW.mono hbW.size)
 have hT2 : W2.heap[W.heap.size]? = some (.cells #[.int .i64 T.op, .int .i64 T.n, .string T.text, .slice a T.kids.length cap, .slice a' T.pats.length cap'] 32 (0, 0)) := by
  rw [hW2, Below.heap_alloc _ _ _ (by simp)]; exact heap_alloc_new _ _
 have hK2 : W2.heap[W.heap.size + 1]? = some (.cells #[.func (.func 78) #[] #[]] 98 (0, 0)) := by
  rw [hW2]; have := heap_alloc_new (W.alloc (.cells #[.int .i64 T.op, .int .i64 T.n, .string T.text, .slice a T.kids.length cap, .slice a' T.pats.length cap'] 32)) (.cells #[.func (.func 78) #[] #[]] 98); simpa using this
 have hp2 : TmAt w.heap.size W2 T (.agg #[.int .i64 T.op, .int .i64 T.n, .string T.text, .slice a T.kids.length cap, .slice a' T.pats.length cap']) := TmAt.keep hb2 (Nat.le_refl _) _ _ hT
 clear hW2
 have hmap := segM_map W2 T 1 (.agg #[.int .i64 T.op, .int .i64 T.n, .string T.text, .slice a T.kids.length cap, .slice a' T.pats.length cap'])
 have hsegn : standLs ((segM W2 1 T (.agg #[.int .i64 T.op, .int .i64 T.n, .string T.text, .slice a T.kids.length cap, .slice a' T.pats.length cap'])).map (·.T)) = standL T := by
  unfold standL
  rw [← hmap]; simp [Function.comp_def]
 have hsego : ∀ x ∈ segM W2 1 T (.agg #[.int .i64 T.op, .int .i64 T.n, .string T.text, .slice a T.kids.length cap, .slice a' T.pats.length cap']), okN x.T := fun x hx =>
  okN_parts T 1 HOK.o (x.d, x.T) (by rw [← hmap]; exact List.mem_map.2 ⟨x, hx, rfl⟩)
 have HSN := lh hsegn; have HSO := lh hsego
 clear hsegn hsego hmap
 gi_wp2
 refine wpF_block ?_
 refine wpF_rangeC (fn := Tryz.f165) rfl (gf := 118) rfl (enters_of Tryz.func118 (by kernel_rfl) rfl) (w0 := W2) (iterMC hp2 (by omega) hT2 hK2 hh) (Below.refl _ _) (fun _ => rfl)
  (fun k => k = w.heap.size + 1) ?hC ?hD
  (fun pre C V => ∃ post vo, segM W2 1 T (.agg #[.int .i64 T.op, .int .i64 T.n, .string T.text, .slice a T.kids.length cap, .slice a' T.pats.length cap']) = pre ++ post ∧ V.heap[w.heap.size + 1]? = some (.cells #[vo] 22 (0, 0)) ∧
   V.ownsRow (w.heap.size + 4) 9 1 vo (standLs (pre.map (·.T))).length ((standLs (pre.map (·.T))).map Value.string) ∧ Hid (∀ k, C k ↔ k = w.heap.size + 1 ∨ vo.ownBlock = some k) ∧ Below w.heap.size w V ∧ w.heap.size + 4 ≤ V.heap.size ∧ Hid (∀ s ∈ standLs (pre.map (·.T)), s.size ≤ maxLen))
  (fun _ _ => False) (fun _ _ => False) ?hI ?hIx ?h0 ?hround ?hdone ?hstop ?hpanic
 case hC => have := HSW.out; rintro k rfl; refine ⟨by omega, ?_⟩; rintro (h | h | h) <;> omega
 case hD => have := HSW.out; rintro k (h | rfl | rfl) <;> omega
 case hI =>
  rintro pre C S V1 V2 ⟨post, vo, h1, h2, h3, h4, h5, h6, h7⟩ hV hS
  exact ⟨post, vo, h1, hV.get h2 (fun h => (hS _ h).2 ((h4.o _).2 (.inl rfl))), ownsRow_of_block h3 (fun g hg => hV.block g (h3.lt g hg).2 fun h => (hS _ h).2 ((h4.o _).2 (.inr hg))), h4, h5.trans (hV.below h5.size fun k h => by have := (hS _ h).1; omega), Nat.le_trans h6 hV.size, h7⟩
 case hIx => intro _ _ _ h; exact h.elim
 case h0 =>
  refine ⟨_, .slice none 0 0, (List.nil_append _).symm, bget hbWW HOW.o (by have := HSW.out; omega), World.ownsRow_nil _ _ _ _, ?_, hb2, by omega, ?_⟩
  ·unfold Hid; intro k; simp [Value.ownBlock]
  ·unfold Hid; intro s h; cases h
 case hstop => intro _ _ _ _ h; exact h.elim
 case hpanic => intro _ _ _ _ h; exact h.elim
 case hdone =>
  rintro E C V hE hCE ⟨post, vo, h1, h2, h3, h4, h5, h6, h7⟩ hV
  have hpn : post = [] := by have := congrArg List.length h1; simp at this; exact this
  subst hpn
  refine hK _ _ ?_
  have co : V.cell? ⟨w.heap.size + 1, 0, none⟩ = some vo := cell_box h2
  obtain ⟨va, vc, rfl⟩ := slice_of_row h3
  have H3 := lh h3; have H1 := lh h1; have HV := lh hV; have H5 := lh h5
  clear h3 h1 hV h5 h2
  refine wpF_of (n := 0) ?_
  gi_wp2
  refine leavesM_mark (by simp) HV.o ?_
  have hr := ownsRow_of_block (w' := V.putObj E (.deferred none)) H3.o fun g hg => World.putObj_heap_other (by rintro rfl; exact hCE ((h4.o _).2 (.inr hg)))
  have h7' := h7.o
  rw [HSN.o] at hr h7'
  refine ⟨_, results_tmp rfl _ _ _, ⟨_, rfl, ?_⟩, H5.o.trans (below_putObj _ (by omega) _)⟩
  rw [HSN.o]
  exact owned_sl hr (fun b hb => ⟨by have := (hr.lt b hb).1; omega, (hr.lt b hb).2⟩) fun b hb hc => strs_of_row _ _ _ h7' hc
 case hround =>
  rintro l pre x post C V hl hlV hx ⟨post', vo, h1, h2, h3, h4, h5, h6, h7⟩ hCk
  obtain rfl : post' = x :: post := List.append_cancel_left (h1.symm.trans hx)
  have hxa := segM_at T _ 1 hp2 x (by rw [h1]; simp)
  have hxo := HSO.o x (by rw [h1]; simp)
  have hlen : (standLs (pre.map (·.T))).length + (standN x.T).length ≤ 1000000 := by
   have h := HL.o
   rw [← HSN.o, h1, List.map_append, List.map_cons, standLs_append] at h
   simp only [standLs, List.length_append] at h
   omega
  obtain ⟨xd, xT, xv⟩ := x
  simp only at hxa hxo hlen
  obtain ⟨xa, xc, xa', xc', rfl, hxt, -, -⟩ := hxa.parts
  have HXA := lh hxa; have HXO := lh hxo; have HLEN := lh hlen
  have HH1 := lh h1; have H2 := lh h2; have H3 := lh h3; have HCK := lh hCk
  clear h1 hx h2 h3 hxa hCk hxo hlen
  dsimp only [encM]
  simp only [List.zip_toArray, List.zip_cons_cons, List.zip_nil_right, List.foldl_toArray', List.foldl_cons, List.foldl_nil, List.setIfInBounds_toArray, List.set_cons_succ, List.set_cons_zero]
  gi_wp2
  refine ⟨(Below.refl _ _).alloc (Nat.le_refl _) _, fun V2 hk2 hz2 => ?_⟩
  have hbox := hk2.get (heap_alloc_new V (.cells #[.int .i64 xT.op, .int .i64 xT.n, .string xT.text, .slice xa xT.kids.length xc, .slice xa' xT.pats.length xc'] 32)) (by omega)
  have hbV : Below V.heap.size V (V.alloc (.cells #[.int .i64 xT.op, .int .i64 xT.n, .string xT.text, .slice xa xT.kids.length xc, .slice xa' xT.pats.length xc'] 32)) := (Below.refl V.heap.size V).alloc (Nat.le_refl _) _
  have ho2 := hk2.get (bget' hbV H2.o) (by omega)
  have hvo : ∀ g, vo.ownBlock = some g → w.heap.size + 4 ≤ g ∧ g < V.heap.size := fun g hg => H3.o.lt g hg
  have hr2 : V2.ownsRow (w.heap.size + 4) 9 1 vo (standLs (pre.map (·.T))).length ((standLs (pre.map (·.T))).map Value.string) := ownsRow_of_block H3.o fun g hg => by
   have hgl := (H3.o.lt g hg).2
   exact (hk2.block g (by simp only [World.size_alloc]; exact Nat.lt_succ_of_lt hgl) fun e => (HCK.o g ((h4.o g).2 (.inr hg))).2.1 e).trans (hbV.block g hgl)
  have hB2 : Below w.heap.size w V2 := h5.trans ((hbV.mono h5.size).trans (hk2.below (by simp; have := h5.size; omega) (by rintro k rfl; omega)))
  have hCs : ∀ k, C k ↔ k = w.heap.size + 1 ∨ vo.ownBlock = some k := h4.o
  have HVO := lh hvo; have HR2 := lh hr2; have HB2 := lh hB2; have HO2 := lh ho2; have HSZ := lh hz2; have HBOX := lh hbox; have HCS := lh hCs; have H7 := h7; have H6 := lh h6
  clear hvo hr2 ho2 hbox hbV hB2 hz2 hk2 hCs h4 h5 h7 H2 H3 h6
  obtain ⟨b0, b1, b2, b3, b4⟩ := cells5 HBOX.o
  -- the end of a round
  have fin : ∀ (vo' : Value) (V' : World), V'.heap[w.heap.size + 1]? = some (.cells #[vo'] 22 (0, 0)) → V'.ownsRow (w.heap.size + 4) 9 1 vo' (standLs (pre.map (·.T)) ++ standN xT).length ((standLs (pre.map (·.T)) ++ standN xT).map Value.string) → Kept C V2 V' → (∀ g, vo'.ownBlock = some g → C g ∨ (V2.heap.size ≤ g ∧ g < V'.heap.size)) → Below w.heap.size w V' →
    Kept C V2 V' ∧ ∃ C' : Nat → Prop, (∀ k, C' k → C k ∨ (V2.heap.size ≤ k ∧ k < V'.heap.size)) ∧ ∃ post_1 vo_1, segM W2 1 T (.agg #[.int .i64 T.op, .int .i64 T.n, .string T.text, .slice a T.kids.length cap, .slice a' T.pats.length cap']) = (pre ++ [⟨xd, xT, .agg #[.int .i64 xT.op, .int .i64 xT.n, .string xT.text, .slice xa xT.kids.length xc, .slice xa' xT.pats.length xc']⟩]) ++ post_1 ∧ V'.heap[w.heap.size + 1]? = some (.cells #[vo_1] 22 (0, 0)) ∧
     V'.ownsRow (w.heap.size + 4) 9 1 vo_1 (standLs ((pre ++ [(⟨xd, xT, .agg #[.int .i64 xT.op, .int .i64 xT.n, .string xT.text, .slice xa xT.kids.length xc, .slice xa' xT.pats.length xc']⟩ : PartM)]).map (·.T))).length ((standLs ((pre ++ [(⟨xd, xT, .agg #[.int .i64 xT.op, .int .i64 xT.n, .string xT.text, .slice xa xT.kids.length xc, .slice xa' xT.pats.length xc']⟩ : PartM)]).map (·.T))).map Value.string) ∧ Hid (∀ k, C' k ↔ k = w.heap.size + 1 ∨ vo_1.ownBlock = some k) ∧ Below w.heap.size w V' ∧ w.heap.size + 4 ≤ V'.heap.size ∧ Hid (∀ s ∈ standLs ((pre ++ [(⟨xd, xT, .agg #[.int .i64 xT.op, .int .i64 xT.n, .string xT.text, .slice xa xT.kids.length xc, .slice xa' xT.pats.length xc']⟩ : PartM)]).map (·.T)), s.size ≤ maxLen) := by
   intro vo' V' g1 g2 g3 g4 g5
   have hst : standLs ((pre ++ [(⟨xd, xT, .agg #[.int .i64 xT.op, .int .i64 xT.n, .string xT.text, .slice xa xT.kids.length xc, .slice xa' xT.pats.length xc']⟩ : PartM)]).map (·.T)) = standLs (pre.map (·.T)) ++ standN xT := by
    rw [List.map_append, standLs_append]; simp [standLs]
   refine ⟨g3, fun k => k = w.heap.size + 1 ∨ vo'.ownBlock = some k, ?_, post, vo', by rw [HH1.o]; simp, g1, by rw [hst]; exact g2, fun k => Iff.rfl, g5, by have := g3.size; have := HSZ.out; have := H6.out; omega, ?_⟩
   ·rintro k (rfl | hk)
    ·exact .inl ((HCS.o _).2 (.inl rfl))
    ·exact g4 k hk
   ·unfold Hid
    rw [hst]
    intro s hs
    rcases List.mem_append.1 hs with h | h
    ·exact H7.o s h
    ·unfold standN at h
     rcases List.mem_append.1 h with h | h
     ·split at h
      ·simp at h; subst h; exact hxt
      ·cases h
     ·exact bndL_size HXA.o _ s h
  have FIN := lh fin
  clear fin
  by_cases h4 : xT.op = 4
  ·have hk0 : xT.kids = [] := ((okN_eq xT).1 HXO.o).2.1 h4
   have hkl : xT.kids.length = 0 := by rw [hk0]; rfl
   have hsn : standN xT = [xT.text] := by unfold standN; rw [if_pos h4, hkl]; simp [bndL]
   have co := cell_of_one HO2.o
   have fo := free_of_one HO2.o
   have HSNN := lh hsn
   have HONE := lh (cells_new V2 [.string xT.text] 9); have HROW := lh (HR2.o.alloc (.cells #[.string xT.text] 9))
   have hll : (standLs (pre.map (·.T))).length ≤ 1000000 := by have := HLEN.out; omega
   clear hk0 hsn
   gi_wp2_with (gi_at_builtin; refine wpListIn_append_own_at _ rfl _ _ 22 rfl (w.heap.size + 4) 9 i0 _ 1 16 Tz.underlying22 hi hz0 hz1 hz2 rfl (by decide) vo _ _ rfl HROW.o ⟨V2.heap.size, 0, none⟩ 1 1 [.string xT.text] rfl rfl HONE.o (string_one [xT.text]) (by unfold maxLen; omega) (by omega) (by have := HSZ.out; have := H6.out; simp <;> omega) ?_; intro v' w' hown' hgr hnil hat; have HOWN := lh hown'; have HGR := lh hgr; have HAT := lh hat; obtain ⟨va, vc, rfl⟩ := slice_of_row hown'; have hbo := one_grown hgr HO2.o (lt_of_block HO2.o) HR2.o (by omega); have co' := cell_of_one hbo; have fo' := free_of_one hbo; have hbk := (hgr.block V.heap.size (by have := HSZ.out; simp <;> omega) (fun e => by have := HVO.o _ e.symm; omega)).trans ((Below.heap_alloc _ _ _ (by have := HSZ.out; omega)).trans HBOX.o); obtain ⟨b0', b1', b2', b3', b4'⟩ := cells5 hbk; have HBO := lh hbo; clear hown' hgr hnil hat hbo hbk)
   refine wpIn_loop_once ?_
   gi_wp2
   have hkw : Kept C V2 (w'.setCell ⟨w.heap.size + 1, 0, none⟩ (.slice va ((standLs (pre.map (·.T))).length + 1) vc)) := (kept_grown HGR.o fun k hk => (HCS.o k).2 (.inr hk)).trans (Kept.setCell (S := C) _ ((HCS.o _).2 (.inl rfl)) _)
   have hfin := FIN.o (.slice va ((standLs (pre.map (·.T))).length + 1) vc) _ (one_setCell HBO.o) ?p1 hkw ?p2 ?p3
   ·obtain ⟨g1, C', g2, post1, vo1, g3, g4⟩ := hfin
    exact ⟨g1, C', g2, ⟨post1, g3⟩, vo1, g4⟩
   case p1 =>
    rw [HSNN.o, List.length_append, List.map_append]
    exact ownsRow_setCell_below HOWN.o (by simp) _
   case p2 =>
    intro g hg
    have hl2 := (HOWN.o.lt g hg).2
    rcases HAT.o with he | he
    ·exact .inl ((HCS.o g).2 (.inr (he ▸ hg)))
    ·rw [he] at hg
     simp at hg
     exact .inr ⟨by omega, by simpa using hl2⟩
   case p3 =>
    exact HB2.o.trans (hkw.below HB2.o.size fun k h => by
     rcases (HCS.o k).1 h with h | h
     ·omega
     ·have := HVO.o k h; omega)
  ·have hsn : standN xT = bndL xT xT.kids.length := by unfold standN; rw [if_neg h4]; rfl
   have HSNN := lh hsn
   obtain ⟨hok1, hok2, hok3, hok4, hok5, hok6⟩ := (okN_eq xT).1 HXO.o
   have HK1 := lh hok1; have HK5 := lh hok5
   clear hsn hok1 hok2 hok5 hok6
   gi_wp2
   gi_loopw [22] (fun i Vr => ∃ (k : Nat) (vo' : Value), k ≤ xT.kids.length ∧ i = .int .i64 k ∧ Hid (Vr.heap[w.heap.size + 1]? = some (.cells #[vo'] 22 (0, 0))) ∧ Hid (Vr.ownsRow (w.heap.size + 4) 9 1 vo' (standLs (pre.map (·.T)) ++ bndL xT k).length ((standLs (pre.map (·.T)) ++ bndL xT k).map Value.string)) ∧ Hid (Kept C V2 Vr) ∧ Hid (∀ g, vo'.ownBlock = some g → C g ∨ (V2.heap.size ≤ g ∧ g < Vr.heap.size)) ∧ Hid (Below w.heap.size w Vr)) (fun i _ => xT.kids.length - (intOf i).toNat)
   case atStart => exact ⟨0, vo, Nat.zero_le _, rfl, HO2.o, by simpa [bndL, Hid] using HR2.o, Kept.refl _ _, fun g hg => .inl ((HCS.o g).2 (.inr hg)), HB2.o⟩
   case round =>
    clear b0 b1 b2 b3 b4
    obtain ⟨k, vo', hk, rfl, HOK', HRK, HKK, HVK, HBK⟩ := hrel
    by_cases hlt : k < xT.kids.length
    ·have hsz := HKK.o.size
     have hz := HSZ.o
     have h6 := H6.o
     have hb1 := bndL_le xT (k := k + 1) (m := xT.kids.length) (by omega)
     have hln : (standLs (pre.map (·.T)) ++ bndL xT k).length + (boundL xT k).length ≤ 1000000 := by
      have := HLEN.o
      rw [HSNN.o] at this
      simp only [bndL, List.length_append] at hb1 ⊢
      omega
     have hnC : ¬ C V.heap.size := fun h => by
      rcases (HCS.o _).1 h with h | h
      ·omega
      ·have := (HVO.o _ h).2; omega
     have hbx := HKK.o.get HBOX.o hnC
     have hvq : vo'.ownBlock ≠ some V.heap.size := fun e => by
      rcases HVK.o _ e with h | h
      ·exact hnC h
      ·omega
     have hW2r : Below w.heap.size W2 wr.drew := ⟨HBK.o.os.trans hb2.os.symm, HBK.o.tape.trans hb2.tape.symm, HBK.o.output.trans hb2.output.symm, by show W2.heap.size ≤ wr.heap.size; omega, fun b hb => (HBK.o.block b hb).trans (hb2.block b hb).symm⟩
     have hbi := boundIn_any xT k (.agg #[.int .i64 xT.op, .int .i64 xT.n, .string xT.text, .slice xa xT.kids.length xc, .slice xa' xT.pats.length xc']) wr.drew (TmAt.keep (Below.refl _ _) (by show w.heap.size ≤ wr.heap.size; omega) _ _ (TmAt.keep hW2r (Nat.le_refl _) _ _ HXA.o)) (by omega) (fun h15 hk0 => by have := HK1.o h15; omega) HK5.o
     have HBI := lh hbi; have HBX := lh hbx; have HVQ := lh hvq; have HLN := lh hln
     clear hbi hbx hvq hln hW2r hb1
     gi_wp2
     refine reg165 (k := k) (m := (standLs (pre.map (·.T)) ++ bndL xT k).length) (bl := boundL xT k) rfl rfl rfl rfl (fun _ _ _ _ _ h => h) (by rintro ⟨_, _, h⟩; exact h) HOK'.o HBX.o HRK.o (by omega) (by omega) HVQ.o HLN.o HBI.o ?_
     intro u25 u26 u27 u28 u29 v' w1 w3 hb1 hown3 hgr3 hat3
     have hs1 := hb1.size
     have hov : ∀ g, vo'.ownBlock = some g → w.heap.size + 4 ≤ g ∧ g < wr.heap.size := fun g hg => HRK.o.lt g hg
     have hbx3 := (hgr3.block (w.heap.size + 1) (by omega) (fun e => by have := (hov _ e.symm).1; omega)).trans (bget' hb1 HOK'.o)
     have hkg : Kept (fun b => vo'.ownBlock = some b) w1 w3 := ⟨hgr3.os, hgr3.tape, hgr3.output, hgr3.size, fun b hb hn => hgr3.block b hb (fun e => hn e.symm)⟩
     have HOWN3 := lh hown3; have HBX3 := lh hbx3; have HAT3 := lh hat3; have HKG := lh hkg; have HB1 := lh hb1; have HOV := lh hov
     clear hown3 hbx3 hat3 hkg hb1 hgr3 hov HBI
     simp only [List.setIfInBounds_toArray, List.set_cons_zero, List.set_cons_succ]
     gi_wp2
     go_roundw
     case rel =>
      have hg3 := HKG.o.size
      have hks : Kept (fun b => b = w.heap.size + 1) w3 (w3.setCell ⟨w.heap.size + 1, 0, none⟩ v') := .setCell (S := fun b => b = w.heap.size + 1) _ rfl _
      have hC1 : C (w.heap.size + 1) := (HCS.o _).2 (.inl rfl)
      have hsum : Kept (fun b => vo'.ownBlock = some b ∨ b = w.heap.size + 1) wr (w3.setCell ⟨w.heap.size + 1, 0, none⟩ v') := (Kept.of_below HB1.o).trans ((HKG.o.mono (fun b h => .inl h)).trans (hks.mono (fun b h => .inr h)))
      have hkC : Kept C V2 (w3.setCell ⟨w.heap.size + 1, 0, none⟩ v') := by
       have h := (HKK.o.mono (S' := fun b => C b ∨ V2.heap.size ≤ b) (fun b h => .inl h)).trans (hsum.mono (fun b h => by
        rcases h with h | h
        ·rcases HVK.o b h with h | h
         ·exact .inl h
         ·exact .inr h.1
        ·subst h; exact .inl hC1))
       exact ⟨h.os, h.tape, h.output, h.size, fun b hb hm => h.block b hb fun h => h.elim hm fun h => by omega⟩
      refine ⟨k + 1, v', by omega, by go_num, one_setCell HBX3.o, ?_, hkC, ?_, HBK.o.trans (hsum.below HBK.o.size fun b h => ?_)⟩
      ·have h := ownsRow_setCell_below HOWN3.o (a := ⟨w.heap.size + 1, 0, none⟩) (by simp) v'
       have e1 : standLs (pre.map (·.T)) ++ bndL xT (k + 1) = (standLs (pre.map (·.T)) ++ bndL xT k) ++ boundL xT k := by simp only [bndL, List.append_assoc]
       unfold Hid
       rw [e1, List.length_append, List.map_append]
       exact h
      ·intro g hg
       have hl2 := (HOWN3.o.lt g hg).2
       rcases HAT3.o with he | he
       ·rw [he] at hg
        rcases HVK.o g hg with h | h
        ·exact .inl h
        ·exact .inr ⟨h.1, by simp; omega⟩
       ·rw [he] at hg
        simp at hg
        exact .inr ⟨by omega, by simp; omega⟩
      ·rcases h with h | h
       ·have := (HOV.o b h).1; omega
       ·omega
     case measure => simp [intOf]; omega
    ·obtain rfl : k = xT.kids.length := by omega
     gi_wp2
     have hfin := FIN.o vo' _ HOK'.o (by rw [HSNN.o]; exact HRK.o) HKK.o HVK.o HBK.o
     obtain ⟨g1, C', g2, post1, vo1, g3, g4⟩ := hfin
     exact ⟨g1, C', g2, ⟨post1, g3⟩, vo1, g4⟩
end Go.Proofs.YtjpahjfjpkbcnaaGreat
namespace Go.Proofs.YtjpahjfjpkbcnaaGreat
open Go.Proofs Go.RowKit
def hasL (ss : List ByteArray) (s : ByteArray) : Bool := ss.any fun x => s.toList == x.toList
theorem hasL_drop (ss : List ByteArray) (s : ByteArray) (k : Nat) (h : k < ss.length) : hasL (ss.drop k) s = ((s.toList == ss[k].toList) || hasL (ss.drop (k + 1)) s) := by
 unfold hasL; rw [drop_cons ss k h, List.any_cons]
def IndexEnd (b : Bool) (e : Ending) : Prop := if b then ∃ i : Nat, i < 1000000 ∧ e = .returned (.int .i64 i) else e = .returned (.int .i64 (-1))
set_option maxHeartbeats 1000000 in
theorem Index_any (ss : List ByteArray) (s : ByteArray) (v : Value) (w : World) (hv : SlV w.heap.size v ss.length fun b o => StrsAt w ss b o) (hl : ss.length ≤ 1000000) :
  Calls Tryz.prog 163 #[v, .string s] w fun e w' => IndexEnd (hasL ss s) e ∧ w' = w := by
 obtain ⟨a, cap, rfl, hcap, hlc, hka⟩ := hv.split
 have HKA := lh hka
 clear hv hka
 go_enter Tryz.func163, Tryz.ntmps163
 go_wp2
 go_loopw [8] (fun i wr => ∃ k : Nat, k ≤ ss.length ∧ i = .int .i64 k ∧ Hid (hasL ss s = hasL (ss.drop k) s) ∧ wr = w) (fun i _ => ss.length - (intOf i).toNat)
 case atStart => exact ⟨0, Nat.zero_le _, rfl, rfl, rfl⟩
 case round =>
  obtain ⟨k, hk, rfl, hh, rfl⟩ := hrel
  by_cases hlt : k < ss.length
  ·obtain ⟨b, o, rfl, hb, hss⟩ := HKA.o (by omega)
   obtain ⟨g0, -⟩ := StrsAt.get ss b o hss k hlt
   have HD := lh (hasL_drop ss s k hlt)
   by_cases he : (s.toList == ss[k].toList) = true
   ·have hi : IndexEnd (hasL ss s) (.returned (.int .i64 k)) := by
     rw [hh.o, HD.o, he]; exact ⟨k, by omega, rfl⟩
    have HI := lh hi
    clear hi
    go_wp2
    go_ret
    exact ⟨HI.o, by first | rfl | trivial⟩
   ·go_wp2
    go_roundw
    case rel =>
     refine ⟨k + 1, by omega, by go_num, ?_, by first | rfl | trivial⟩
     unfold Hid
     rw [hh.o, HD.o]
     have : (s.toList == ss[k].toList) = false := by simpa using he
     rw [this, Bool.false_or]
    case measure => simp [intOf]; omega
  ·obtain rfl : k = ss.length := by omega
   have hi : IndexEnd (hasL ss s) (.returned (.int .i64 (-1))) := by
    rw [hh.o, List.drop_length]; rfl
   have HI := lh hi
   clear hi
   go_wp2
   go_ret
   exact ⟨HI.o, rfl⟩
theorem Contains_any (ss : List ByteArray) (s : ByteArray) (v : Value) (w : World) (hv : SlV w.heap.size v ss.length fun b o => StrsAt w ss b o) (hl : ss.length ≤ 1000000) :
  Calls Tryz.prog 138 #[v, .string s] w fun e w' => e = .returned (.bool (hasL ss s)) ∧ w' = w := by
 have hi := Index_any ss s v w hv hl
 obtain ⟨a, cap, rfl, -⟩ := hv.split
 have HI := lh hi
 clear hi hv
 go_enter Tryz.func138, Tryz.ntmps138
 go_wp2_with fail
 refine HI.o.mono ?_
 rintro e w1 ⟨hie, rfl⟩
 cases hb : hasL ss s
 ·rw [hb] at hie
  unfold IndexEnd at hie
  obtain rfl := hie
  clear HI
  go_wp2
  go_ret
  exact ⟨ret_bool (by simp [hb]), rfl⟩
 ·rw [hb] at hie
  unfold IndexEnd at hie
  obtain ⟨i, hi, rfl⟩ := hie
  clear HI
  go_wp2
  go_ret
  exact ⟨ret_bool (by simp [hb]), rfl⟩
def inL (ss : List ByteArray) (x : List UInt8) : Bool := ss.any fun s => s.toList == x
theorem inL_snoc (ss : List ByteArray) (s : ByteArray) (x : List UInt8) : inL (ss ++ [s]) x = (inL ss x || x == s.toList) := by
 unfold inL
 rw [List.any_append]
 simp [Bool.beq_comm]
set_option maxHeartbeats 2000000 in
set_option maxRecDepth 100000 in
theorem reserve_any (ls : List (List ByteArray)) (b o cap : Nat) (w : World) (hb : b < w.heap.size)
  (hls : ∀ (i : Nat) (h : i < ls.length), ∃ vi, w.cell? ⟨b, o + i, none⟩ = some vi ∧ SlV w.heap.size vi ls[i].length fun b o => StrsAt w ls[i] b o)
  (hl : ls.flatten.length ≤ 1000000) (hl2 : ls.length ≤ 1000000) :
  Calls Tryz.prog 63 #[.slice (some ⟨b, o, none⟩) ls.length cap] w fun e w' => (e = .returned (.agg #[.map (some (w.heap.size + 1))])) ∧ SetAt w' (w.heap.size + 1) ls.flatten.length (inL ls.flatten) ∧ Below w.heap.size w w' := by
 have hmm := @run_makeMap Tryz.prog
 have HLS := lh hls; have HL := lh hl
 clear hls hl
 go_enter Tryz.func63, Tryz.ntmps63
 go_wp2
 clear hmm
 have hBW : Below w.heap.size w ((w.alloc (.cells #[.map none] 87)).alloc (.map #[] 0)) := ((Below.refl _ w).alloc (Nat.le_refl _) _).alloc (by simp) _
 have hset := SetAt.new (w.alloc (.cells #[.map none] 87))
 rw [World.size_alloc] at hset
 have hx : ((w.alloc (.cells #[.map none] 87)).alloc (.map #[] 0)).heap[w.heap.size]? = some (.cells #[.map none] 87 (0, 0)) := by rw [Below.heap_alloc _ _ _ (by simp)]; exact heap_alloc_new _ _
 generalize ((w.alloc (.cells #[.map none] 87)).alloc (.map #[] 0)) = W at *
 have HBW := lh hBW; have HSET := lh hset; have HX := lh hx
 clear hBW hset hx
 go_loopw [11] (fun i wr => ∃ k : Nat, k ≤ ls.length ∧ i = .int .i64 k ∧ SetAt wr (w.heap.size + 1) (ls.take k).flatten.length (inL (ls.take k).flatten) ∧ Kept (· = w.heap.size + 1) W wr) (fun i _ => ls.length - (intOf i).toNat)
 case atStart => exact ⟨0, Nat.zero_le _, rfl, HSET.o, Kept.refl _ _⟩
 case round =>
  obtain ⟨k, hk, rfl, hset, hkp⟩ := hrel
  by_cases hlt : k < ls.length
  ·obtain ⟨vi, hci, hvi⟩ := HLS.o k hlt
   have hbr : Below w.heap.size w wr := HBW.o.trans (hkp.below HBW.o.size (by rintro j rfl; omega))
   have hci' := (hbr.cell (p := ⟨b, o + k, none⟩) hb).trans hci
   obtain ⟨va, vc, rfl, hcap, hlc, hka⟩ := hvi.split
   have HKA := lh hka; have HST := lh hset; have HKP := lh hkp; have HBR := lh hbr
   have htk : (ls.take (k + 1)).flatten = (ls.take k).flatten ++ ls[k] := by
    rw [List.take_succ_eq_append_getElem hlt, List.flatten_append]; simp
   have hle : (ls.take k).flatten.length + ls[k].length ≤ 1000000 := by
    have h1 := congrArg List.length htk
    have h2 : ls.flatten = (ls.take (k + 1)).flatten ++ (ls.drop (k + 1)).flatten := by rw [← List.flatten_append, List.take_append_drop]
    have h3 := congrArg List.length h2
    have := HL.o
    simp only [List.length_append] at h1 h3
    omega
   have hlk : ls[k].length ≤ 1000000 := by omega
   have HTK := lh htk; have HLE := lh hle
   clear hci hvi hka hset hkp hbr htk hle
   go_wp2
   go_loopw [17] (fun i wr => ∃ j : Nat, j ≤ ls[k].length ∧ i = .int .i64 j ∧ SetAt wr (w.heap.size + 1) ((ls.take k).flatten.length + j) (inL ((ls.take k).flatten ++ ls[k].take j)) ∧ Kept (· = w.heap.size + 1) W wr) (fun i _ => ls[k].length - (intOf i).toNat)
   case atStart => exact ⟨0, Nat.zero_le _, rfl, by simpa using HST.o, HKP.o⟩
   case round =>
    obtain ⟨j, hj, rfl, hset, hkp⟩ := hrel
    by_cases hlj : j < ls[k].length
    ·obtain ⟨bb, oo, rfl, hbb, hss⟩ := HKA.o (by omega)
     obtain ⟨g0, gs⟩ := StrsAt.get _ bb oo hss j hlj
     have hbr : Below w.heap.size w wr := HBW.o.trans (hkp.below HBW.o.size (by rintro j rfl; omega))
     have g1 := (hbr.cell (p := ⟨bb, oo + j, none⟩) hbb).trans g0
     obtain ⟨w5, hput, hset5, hgr5⟩ := hset.put ls[k][j] gs (by have := HLE.out; unfold maxLen; omega)
     have HS5 := lh hset5; have HG5 := lh hgr5; have HK := lh hkp
     clear hset hset5 hgr5 hkp hbr g0 gs hss
     go_wp2
     go_roundw
     case rel =>
      refine ⟨j + 1, by omega, by go_num, ?_, HK.o.trans ⟨HG5.o.os, HG5.o.tape, HG5.o.output, HG5.o.size, fun i h hs => HG5.o.block i h (by simpa using hs)⟩⟩
      have := HS5.o
      rw [Nat.add_assoc] at this
      refine this.congr fun x => ?_
      rw [List.take_succ_eq_append_getElem hlj, ← List.append_assoc, inL_snoc]
     case measure => simp [intOf]; omega
    ·obtain rfl : j = ls[k].length := by omega
     have HST2 := lh hset; have HKP2 := lh hkp
     clear hset hkp
     go_wp2
     go_roundw
     case rel =>
      refine ⟨k + 1, by omega, by go_num, ?_, HKP2.o⟩
      have := HST2.o
      rw [List.take_length, ← HTK.o] at this
      exact this.mono (by rw [HTK.o]; simp)
     case measure => simp [intOf]; omega
  ·obtain rfl : k = ls.length := by omega
   rw [List.take_length] at hset
   have hx := hkp.get HX.o (by omega)
   have c0 := cell_of_one hx
   have f0 := free_of_one hx
   have HST2 := lh hset; have HKP2 := lh hkp
   clear hset hkp hx
   go_wp2
   refine bodyPost_ret (v := .agg #[.map (some (w.heap.size + 1))]) (by simp [results, Tryz.results63, go_sem, c0]) rfl ⟨rfl, ?_, ?_⟩
   ·exact HST2.o.kept (S := (· = w.heap.size)) (Kept.setCell (S := (· = w.heap.size)) _ rfl _) (by omega)
   ·have h1 := HBW.o.trans (HKP2.o.below HBW.o.size (by rintro j rfl; omega))
    exact h1.trans ((Kept.setCell (S := (· = w.heap.size)) _ rfl _).below h1.size (by rintro j rfl; omega))
end Go.Proofs.YtjpahjfjpkbcnaaGreat
