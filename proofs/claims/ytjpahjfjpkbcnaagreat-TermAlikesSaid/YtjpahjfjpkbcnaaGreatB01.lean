/- Contracts of the program's functions. -/
import Derived.Test.YtjpahjfjpkbcnaaGreatProg
import Derived.WalkKit
import Derived.WalkLawsBesides
import Derived.WalkSpells
import Derived.BigQuiet
import Derived.Deep.QuietTactic
import Derived.Lib.Hide
import Derived.RangeFuncKeeps
import Derived.RangeFuncLeaves
import Derived.RangeFuncCalls
import Derived.RangeFuncBound
import Derived.OwnWalkIn
import Derived.TacticsInMore
import Derived.LoopNIn
import Derived.LoopIn
import Derived.Shelf.RegionOpen
import Derived.Laws.EntriesVeiled

namespace Go.RowKit
theorem Hid.o {p : Prop} (h : Hid p) : p := h.out
end Go.RowKit
namespace Go.Proofs.YtjpahjfjpkbcnaaGreat
open Go.Proofs Go.RowKit
theorem lh {p : Prop} (h : p) : Hid p := Lib.hid h
inductive Pt where
 | mk (form n : Int) (text : ByteArray) (parts : List Pt)
inductive Tm where
 | mk (op n : Int) (text : ByteArray) (kids : List Tm) (pats : List Pt)
inductive Ty where
 | mk (sort n : Int) (text : ByteArray) (parts : List Ty)
instance : Inhabited Pt := ⟨.mk 0 0 default []⟩
instance : Inhabited Tm := ⟨.mk 0 0 default [] []⟩
instance : Inhabited Ty := ⟨.mk 0 0 default []⟩
def SlV (n₀ : Nat) (v : Value) (n : Nat) (R : Nat → Nat → Prop) : Prop :=
 (n = 0 ∧ ∃ (a : Option Addr) (cap : Nat), v = .slice a 0 cap ∧ cap ≤ maxLen) ∨ ∃ b o cap, v = .slice (some ⟨b, o, none⟩) n cap ∧ n ≤ cap ∧ cap ≤ maxLen ∧ b < n₀ ∧ R b o
mutual
def PtAt (n₀ : Nat) (w : World) : Pt → Value → Prop
 | .mk form n text parts, v => ∃ kv, v = .agg #[.int .i64 form, .int .i64 n, .string text, kv] ∧ text.size ≤ maxLen ∧ SlV n₀ kv parts.length fun b o => PtsAt n₀ w parts b o
def PtsAt (n₀ : Nat) (w : World) : List Pt → Nat → Nat → Prop
 | [], _, _ => True
 | p :: ps, b, o => (∃ c0 c1 c2 c3, w.cell? ⟨b, o, none⟩ = some c0 ∧ w.cell? ⟨b, o + 1, none⟩ = some c1 ∧ w.cell? ⟨b, o + 2, none⟩ = some c2 ∧ w.cell? ⟨b, o + 3, none⟩ = some c3 ∧ PtAt n₀ w p (.agg #[c0, c1, c2, c3])) ∧ PtsAt n₀ w ps b (o + 4)
end
mutual
def TmAt (n₀ : Nat) (w : World) : Tm → Value → Prop
 | .mk op n text kids pats, v => ∃ kv pv, v = .agg #[.int .i64 op, .int .i64 n, .string text, kv, pv] ∧ text.size ≤ maxLen ∧ SlV n₀ kv kids.length (fun b o => TmsAt n₀ w kids b o) ∧ SlV n₀ pv pats.length (fun b o => PtsAt n₀ w pats b o)
def TmsAt (n₀ : Nat) (w : World) : List Tm → Nat → Nat → Prop
 | [], _, _ => True
 | p :: ps, b, o => (∃ c0 c1 c2 c3 c4, w.cell? ⟨b, o, none⟩ = some c0 ∧ w.cell? ⟨b, o + 1, none⟩ = some c1 ∧ w.cell? ⟨b, o + 2, none⟩ = some c2 ∧ w.cell? ⟨b, o + 3, none⟩ = some c3 ∧ w.cell? ⟨b, o + 4, none⟩ = some c4 ∧ TmAt n₀ w p (.agg #[c0, c1, c2, c3, c4])) ∧ TmsAt n₀ w ps b (o + 5)
end
def StrsAt (w : World) : List ByteArray → Nat → Nat → Prop
 | [], _, _ => True
 | s :: ss, b, o => (w.cell? ⟨b, o, none⟩ = some (.string s) ∧ s.size ≤ maxLen) ∧ StrsAt w ss b (o + 1)
def SsAt (n₀ : Nat) (w : World) (ss : List ByteArray) (v : Value) : Prop := SlV n₀ v ss.length fun b o => StrsAt w ss b o
theorem SlV.mono {n₀ n₁ : Nat} {v : Value} {n : Nat} {R R' : Nat → Nat → Prop} (h : SlV n₀ v n R) (hn : n₀ ≤ n₁) (hr : ∀ b o, b < n₀ → R b o → R' b o) : SlV n₁ v n R' := by
 rcases h with h | ⟨b, o, cap, h1, h2, h3, h4, h5⟩
 ·exact .inl h
 ·exact .inr ⟨b, o, cap, h1, h2, h3, by omega, hr b o h4 h5⟩
mutual
theorem PtAt.keep {n₀ n₁ : Nat} {w w' : World} (hb : Below n₀ w w') (hn : n₀ ≤ n₁) : ∀ (p : Pt) (v : Value), PtAt n₀ w p v → PtAt n₁ w' p v
 | .mk form n text parts, v, h => by
  unfold PtAt at h ⊢
  obtain ⟨kv, h1, h2, h3⟩ := h
  exact ⟨kv, h1, h2, h3.mono hn fun b o hlt hr => PtsAt.keep hb hn parts b o hlt hr⟩
theorem PtsAt.keep {n₀ n₁ : Nat} {w w' : World} (hb : Below n₀ w w') (hn : n₀ ≤ n₁) : ∀ (ps : List Pt) (b o : Nat), b < n₀ → PtsAt n₀ w ps b o → PtsAt n₁ w' ps b o
 | [], _, _, _, _ => by unfold PtsAt; trivial
 | p :: ps, b, o, hlt, h => by
  unfold PtsAt at h ⊢
  obtain ⟨⟨c0, c1, c2, c3, h0, h1, h2, h3, hp⟩, hs⟩ := h
  exact ⟨⟨c0, c1, c2, c3, (hb.cell (p := ⟨b, o, none⟩) hlt).trans h0, (hb.cell (p := ⟨b, o + 1, none⟩) hlt).trans h1, (hb.cell (p := ⟨b, o + 2, none⟩) hlt).trans h2, (hb.cell (p := ⟨b, o + 3, none⟩) hlt).trans h3, PtAt.keep hb hn p _ hp⟩, PtsAt.keep hb hn ps b _ hlt hs⟩
end
mutual
theorem TmAt.keep {n₀ n₁ : Nat} {w w' : World} (hb : Below n₀ w w') (hn : n₀ ≤ n₁) : ∀ (p : Tm) (v : Value), TmAt n₀ w p v → TmAt n₁ w' p v
 | .mk op n text kids pats, v, h => by
  unfold TmAt at h ⊢
  obtain ⟨kv, pv, h1, h2, h3, h4⟩ := h
  exact ⟨kv, pv, h1, h2, h3.mono hn fun b o hlt hr => TmsAt.keep hb hn kids b o hlt hr, h4.mono hn fun b o hlt hr => PtsAt.keep hb hn pats b o hlt hr⟩
theorem TmsAt.keep {n₀ n₁ : Nat} {w w' : World} (hb : Below n₀ w w') (hn : n₀ ≤ n₁) : ∀ (ps : List Tm) (b o : Nat), b < n₀ → TmsAt n₀ w ps b o → TmsAt n₁ w' ps b o
 | [], _, _, _, _ => by unfold TmsAt; trivial
 | p :: ps, b, o, hlt, h => by
  unfold TmsAt at h ⊢
  obtain ⟨⟨c0, c1, c2, c3, c4, h0, h1, h2, h3, h4, hp⟩, hs⟩ := h
  exact ⟨⟨c0, c1, c2, c3, c4, (hb.cell (p := ⟨b, o, none⟩) hlt).trans h0, (hb.cell (p := ⟨b, o + 1, none⟩) hlt).trans h1, (hb.cell (p := ⟨b, o + 2, none⟩) hlt).trans h2, (hb.cell (p := ⟨b, o + 3, none⟩) hlt).trans h3, (hb.cell (p := ⟨b, o + 4, none⟩) hlt).trans h4, TmAt.keep hb hn p _ hp⟩, TmsAt.keep hb hn ps b _ hlt hs⟩
end
theorem StrsAt.keep {n₀ : Nat} {w w' : World} (hb : Below n₀ w w') : ∀ (ss : List ByteArray) (b o : Nat), b < n₀ → StrsAt w ss b o → StrsAt w' ss b o
 | [], _, _, _, _ => trivial
 | _ :: ss, b, o, hlt, ⟨⟨h, hs⟩, hr⟩ => ⟨⟨(hb.cell (p := ⟨b, o, none⟩) hlt).trans h, hs⟩, StrsAt.keep hb ss b _ hlt hr⟩
theorem SsAt.keep {n₀ n₁ : Nat} {w w' : World} (hb : Below n₀ w w') (hn : n₀ ≤ n₁) {ss : List ByteArray} {v : Value} (h : SsAt n₀ w ss v) : SsAt n₁ w' ss v :=
 SlV.mono h hn fun b o hlt hr => StrsAt.keep hb ss b o hlt hr
theorem TmsAt.get {n₀ : Nat} {w : World} : ∀ (ps : List Tm) (b o : Nat), TmsAt n₀ w ps b o → ∀ (i : Nat) (h : i < ps.length),
  ∃ c0 c1 c2 c3 c4, w.cell? ⟨b, o + i * 5, none⟩ = some c0 ∧ w.cell? ⟨b, o + i * 5 + 1, none⟩ = some c1 ∧ w.cell? ⟨b, o + i * 5 + 2, none⟩ = some c2 ∧ w.cell? ⟨b, o + i * 5 + 3, none⟩ = some c3 ∧ w.cell? ⟨b, o + i * 5 + 4, none⟩ = some c4 ∧ TmAt n₀ w ps[i] (.agg #[c0, c1, c2, c3, c4])
 | p :: ps, b, o, h, 0, _ => by unfold TmsAt at h; simpa using h.1
 | p :: ps, b, o, h, i + 1, hi => by
  unfold TmsAt at h
  have := TmsAt.get ps b (o + 5) h.2 i (by simpa using hi)
  rw [show o + (i + 1) * 5 = o + 5 + i * 5 by omega]
  simpa using this
theorem PtsAt.get {n₀ : Nat} {w : World} : ∀ (ps : List Pt) (b o : Nat), PtsAt n₀ w ps b o → ∀ (i : Nat) (h : i < ps.length),
  ∃ c0 c1 c2 c3, w.cell? ⟨b, o + i * 4, none⟩ = some c0 ∧ w.cell? ⟨b, o + i * 4 + 1, none⟩ = some c1 ∧ w.cell? ⟨b, o + i * 4 + 2, none⟩ = some c2 ∧ w.cell? ⟨b, o + i * 4 + 3, none⟩ = some c3 ∧ PtAt n₀ w ps[i] (.agg #[c0, c1, c2, c3])
 | p :: ps, b, o, h, 0, _ => by unfold PtsAt at h; simpa using h.1
 | p :: ps, b, o, h, i + 1, hi => by
  unfold PtsAt at h
  have := PtsAt.get ps b (o + 4) h.2 i (by simpa using hi)
  rw [show o + (i + 1) * 4 = o + 4 + i * 4 by omega]
  simpa using this
theorem StrsAt.get {w : World} : ∀ (ss : List ByteArray) (b o : Nat), StrsAt w ss b o → ∀ (i : Nat) (h : i < ss.length), w.cell? ⟨b, o + i, none⟩ = some (.string ss[i]) ∧ ss[i].size ≤ maxLen
 | s :: ss, b, o, h, 0, _ => by simpa using h.1
 | s :: ss, b, o, h, i + 1, hi => by
  have := StrsAt.get ss b (o + 1) h.2 i (by simpa using hi)
  rw [show o + (i + 1) = o + 1 + i by omega]
  simpa using this
theorem bcell {n₀ : Nat} {W w1 : World} (hb : Below n₀ W w1) : (∀ b o, b < n₀ → w1.cell? ⟨b, o, none⟩ = W.cell? ⟨b, o, none⟩) ∧ (∀ b o, b < n₀ → w1.frozen? ⟨b, o, none⟩ = W.frozen? ⟨b, o, none⟩) :=
 ⟨fun b o h => hb.cell (p := ⟨b, o, none⟩) h, fun b o h => hb.frozen (p := ⟨b, o, none⟩) h⟩
theorem ret_bool {a b : Bool} (h : a = b) : Ending.returned (.bool a) = .returned (.bool b) := by rw [h]
theorem ret_int {k : IntKind} {a b : Int} (h : a = b) : Ending.returned (.int k a) = .returned (.int k b) := by rw [h]
end Go.Proofs.YtjpahjfjpkbcnaaGreat
namespace Go.Proofs.YtjpahjfjpkbcnaaGreat
open Go.Proofs Go.RowKit
structure Kept (S : Nat → Prop) (W W' : World) : Prop where
 os : W'.os = W.os
 tape : W'.tape = W.tape
 output : W'.output = W.output
 size : W.heap.size ≤ W'.heap.size
 block : ∀ k, k < W.heap.size → ¬ S k → W'.heap[k]? = W.heap[k]?
theorem Kept.refl (S : Nat → Prop) (W : World) : Kept S W W := ⟨rfl, rfl, rfl, Nat.le_refl _, fun _ _ _ => rfl⟩
theorem Kept.trans {S : Nat → Prop} {A B C : World} (h : Kept S A B) (k : Kept S B C) : Kept S A C :=
 ⟨k.os.trans h.os, k.tape.trans h.tape, k.output.trans h.output, Nat.le_trans h.size k.size, fun i hi hs => (k.block i (Nat.lt_of_lt_of_le hi h.size) hs).trans (h.block i hi hs)⟩
theorem Kept.mono {S S' : Nat → Prop} {A B : World} (h : Kept S A B) (hs : ∀ k, S k → S' k) : Kept S' A B :=
 ⟨h.os, h.tape, h.output, h.size, fun i hi hn => h.block i hi fun h' => hn (hs i h')⟩
theorem Kept.of_below {S : Nat → Prop} {A B : World} (h : Below A.heap.size A B) : Kept S A B :=
 ⟨h.os, h.tape, h.output, h.size, fun i hi _ => h.block i hi⟩
theorem Kept.below {S : Nat → Prop} {A B : World} {n₀ : Nat} (h : Kept S A B) (hn : n₀ ≤ A.heap.size) (hs : ∀ k, S k → n₀ ≤ k) : Below n₀ A B :=
 ⟨h.os, h.tape, h.output, h.size, fun i hi => h.block i (by omega) fun h' => by have := hs i h'; omega⟩
theorem Kept.setCell {S : Nat → Prop} (W : World) {a : Addr} (h : S a.block) (u : Value) : Kept S W (W.setCell a u) :=
 ⟨rfl, rfl, rfl, by simp [World.setCell], fun k _ hn => Below.heap_setCell _ _ _ _ (fun e => hn (e ▸ h))⟩
theorem Kept.putObj {S : Nat → Prop} (W : World) {l : Nat} (h : S l) (o : Obj) : Kept S W (W.putObj l o) :=
 ⟨rfl, rfl, rfl, by simp [World.putObj], fun k _ hn => World.putObj_heap_other (fun e => hn (e ▸ h))⟩
theorem Kept.alloc {S : Nat → Prop} (W : World) (o : Obj) : Kept S W (W.alloc o) := .of_below ((Below.refl _ _).alloc (Nat.le_refl _) _)
theorem Kept.get {S : Nat → Prop} {A B : World} (h : Kept S A B) {k : Nat} {o : Obj} (hk : A.heap[k]? = some o) (hs : ¬ S k) : B.heap[k]? = some o :=
 (h.block k (Array.getElem?_eq_some_iff.1 hk).1 hs).trans hk
theorem below_putObj {n₀ : Nat} (W : World) {l : Nat} (h : n₀ ≤ l) (o : Obj) : Below n₀ W (W.putObj l o) :=
 ⟨rfl, rfl, rfl, by simp [World.putObj], fun k hk => World.putObj_heap_other (by omega)⟩
theorem bget {n₀ : Nat} {A B : World} (h : Below n₀ A B) {k : Nat} {o : Obj} (hk : A.heap[k]? = some o) (hs : k < n₀) : B.heap[k]? = some o := (h.block k hs).trans hk
theorem bget' {A B : World} (h : Below A.heap.size A B) {k : Nat} {o : Obj} (hk : A.heap[k]? = some o) : B.heap[k]? = some o := bget h hk (Array.getElem?_eq_some_iff.1 hk).1
section
variable {P : Program}
def wpF (P : Program) (fn₀ : FuncId) (c : Code) (Q : Exit → Act → World → Prop) (a : Act) (w : World) : Prop :=
 ∀ (b : Frame) (k : List Item) (cs : List Frame), b.fn = fn₀ → b.roundOf = none →
  ∃ e a' w', Q e a' w' ∧ ArrivesIn (Machine.fenced P Fence.wide) P (lone (b.atR a (.code c :: k)) cs w) b k cs e a' w'
theorem wpF_of {fn₀ : FuncId} {c : Code} {Q : Exit → Act → World → Prop} {a : Act} {w : World} {n : Nat} (h : c.wpIn Fence.wide n P Q a w) : wpF P fn₀ c Q a w :=
 fun b k cs _ hro => h b k cs hro trivial (room_wide _)
theorem wpF_seq {fn₀ : FuncId} {x y : Code} {Q : Exit → Act → World → Prop} {a : Act} {w : World}
  (h : ∀ K : Act → World → Prop, (∀ a w, wpF P fn₀ y Q a w → K a w) → wpF P fn₀ x (Exit.then K Q) a w) : wpF P fn₀ (Code.seq x y) Q a w := by
 intro b k cs hf hro
 have h0 : (lone (b.atR a (.code (.seq x y) :: k)) cs w).fenced P Fence.wide := fenced_wide _ _
 obtain ⟨e, a₁, w₁, hq, harr⟩ := h _ (fun _ _ h => h) b (.code y :: k) cs hf hro
 cases e with
 | normal =>
  obtain ⟨e₂, a₂, w₂, hq₂, harr₂⟩ := hq b k cs hf hro
  exact ⟨e₂, a₂, w₂, hq₂, .of_steps (.head h0 stepR_seq harr) harr₂⟩
 | exit id => exact ⟨_, a₁, w₁, hq, .of_steps (.one h0 stepR_seq) (.pass (x := .code y) rfl (fun _ _ => .inl (by simp)) harr)⟩
 | goto l => exact ⟨_, a₁, w₁, hq, .of_steps (.one h0 stepR_seq) (.pass (x := .code y) rfl (fun _ _ => .inl (by simp)) harr)⟩
 | ret => exact ⟨_, a₁, w₁, hq, .of_steps (.one h0 stepR_seq) (.pass (x := .code y) rfl (fun _ _ => .inl (by simp)) harr)⟩
 | panic ch => exact ⟨_, a₁, w₁, hq, .of_steps (.one h0 stepR_seq) (.pass (x := .code y) rfl (fun _ _ => .inl (by simp)) harr)⟩
 | outgrown => exact ⟨_, a₁, w₁, hq, .of_steps (.one h0 stepR_seq) (.pass (x := .code y) rfl (fun _ _ => .inl (by simp)) harr)⟩
theorem wpF_block {fn₀ : FuncId} {id : Nat} {c : Code} {Q : Exit → Act → World → Prop} {a : Act} {w : World} (h : wpF P fn₀ c (Exit.inBlock id Q) a w) : wpF P fn₀ (Code.block id c) Q a w := by
 intro b k cs hf hro
 have h0 : (lone (b.atR a (.code (.block id c) :: k)) cs w).fenced P Fence.wide := fenced_wide _ _
 obtain ⟨e, a₁, w₁, hq, harr⟩ := h b (.inBlock id :: k) cs hf hro
 cases e with
 | normal => exact ⟨.normal, a₁, w₁, hq, .head h0 stepR_block (StepsIn.trans harr (.one (fenced_wide _ _) stepR_inBlock))⟩
 | exit id' =>
  by_cases hid : id' = id
  ·simp only [Exit.inBlock, hid, if_true] at hq
   exact ⟨.normal, a₁, w₁, hq, .head h0 stepR_block (harr.1 k (by simp [exitTo, hid]))⟩
  ·simp only [Exit.inBlock, hid, if_false] at hq
   have this : (id == id') = false := by simp; exact fun h => hid h.symm
   have hx : exitTo id' (.inBlock id :: k) = exitTo id' k := by simp [exitTo, this]
   exact ⟨.exit id', a₁, w₁, hq, fun k' hk => .head h0 stepR_block (harr.1 k' (by rw [hx]; exact hk)),
    fun hr' hk => let ⟨k₁, h1, h2⟩ := harr.2 hr' (by rw [hx]; exact hk); ⟨k₁, h1, .head h0 stepR_block h2⟩⟩
 | goto l =>
  have hx : gotoIn l (.inBlock id :: k) = gotoIn l k := by simp [gotoIn]
  exact ⟨_, a₁, w₁, hq, fun k' hk => .head h0 stepR_block (harr.1 k' (by rw [hx]; exact hk)),
   fun hr' hk => let ⟨k₁, h1, h2⟩ := harr.2 hr' (by rw [hx]; exact hk); ⟨k₁, h1, .head h0 stepR_block h2⟩⟩
 | ret => exact ⟨_, a₁, w₁, hq, .of_steps (.one h0 stepR_block) harr⟩
 | panic ch => exact ⟨_, a₁, w₁, hq, .of_steps (.one h0 stepR_block) harr⟩
 | outgrown => exact ⟨_, a₁, w₁, hq, .of_steps (.one h0 stepR_block) harr⟩
theorem calls_of_wpF {f : FuncId} {fn : Func} {c : Code} {args : Array Value} {w : World} {R : Ending → World → Prop}
  (hf : P.funcs[f]? = some fn) (hb : fn.body = some c)
  (h : wpF P f c (bodyPostM Fence.wide 0 P fn R) { tmps := args ++ Array.replicate (fn.ntmps - args.size) undef, defers := [] } w) : CallsIn Fence.wide 0 P f args w R := by
 refine ⟨trivial, fun cs hr => ?_⟩
 let b : Frame := { (default : Frame) with fn := f, kind := .normal, roundOf := none }
 have henter : Frame.enter P f args .normal =
   b.atR { tmps := args ++ Array.replicate (fn.ntmps - args.size) undef, defers := [] } [.code c] := by
  simp [Frame.enter, Frame.atR, hf, hb, b]
 obtain ⟨e, a', w', hq, harr⟩ := h b [] cs rfl rfl
 rw [← henter] at harr
 cases e with
 | normal =>
  obtain ⟨e', w'', fr', hR, hs, hfn, hl⟩ := leaves_stepsInM a'.defers .returning w' { b.atR a' [] with mode := .returning } cs rfl rfl rfl hf rfl trivial hr hq
  exact ⟨e', w'', fr', hR, ComesIn.of_steps (StepsIn.trans harr (.one (fenced_wide _ _) (stepR_end rfl))) hs, hfn, hl⟩
 | ret =>
  obtain ⟨todo, hs₀⟩ := harr.1 rfl
  obtain ⟨e', w'', fr', hR, hs, hfn, hl⟩ := leaves_stepsInM a'.defers .returning w' { b.atR a' todo with mode := .returning } cs rfl rfl rfl hf rfl trivial hr hq
  exact ⟨e', w'', fr', hR, ComesIn.of_steps hs₀ hs, hfn, hl⟩
 | panic chain =>
  obtain ⟨todo, hs₀⟩ := harr
  obtain ⟨e', w'', fr', hR, hs, hfn, hl⟩ := leaves_stepsInM a'.defers (.panicking chain) w' { b.atR a' todo with mode := .panicking chain } cs rfl rfl rfl hf rfl trivial hr hq
  exact ⟨e', w'', fr', hR, ComesIn.of_steps hs₀ hs, hfn, hl⟩
 | exit id => exact hq.elim
 | goto l => exact hq.elim
 | outgrown => exact ⟨.outgrown, w', b, hq, harr.resolve_left (by simp [b]), rfl, trivial⟩
def roundPostP (P : Program) (l : Nat) (R : Ending → World → Prop) : Exit → Act → World → Prop
 | .normal, _, w => ∃ v w', (Instr.endRound l none).run P w = .ok v w' ∧ R (.returned v) w'
 | .ret, _, w => ∃ v w', (Instr.endRound l (some .ret)).run P w = .ok v w' ∧ R (.returned v) w'
 | .exit id, _, w => ∃ v w', (Instr.endRound l (some (.exit id))).run P w = .ok v w' ∧ R (.returned v) w'
 | .goto t, _, w => ∃ v w', (Instr.endRound l (some (.goto t))).run P w = .ok v w' ∧ R (.returned v) w'
 | .panic ch, a, w => a.defers = [] ∧ R (.panicked ch) w
 | .outgrown, _, _ => False
theorem roundIn_of_wpInP {l : Nat} {f : FuncId} {fn : Func} {tmps : Array Value} {assign body : Code} {w : World} {R : Ending → World → Prop} (hfn : P.funcs[f]? = some fn)
  (h : assign.wpIn (Fence.wide.inRound l) 0 P (Exit.then (fun a₁ w₁ => ∃ w₂, (Instr.beginRound l).run P w₁ = .ok () w₂ ∧ body.wpIn (Fence.wide.inRound l) 0 P (roundPostP P l R) a₁ w₂) (fun _ _ _ => False))
   { tmps := tmps, defers := [] } w) :
  RoundIn Fence.wide 0 P l f tmps assign body w R := by
 refine ⟨trivial, fun c cs hr => ?_⟩
 let b : Frame := { (default : Frame) with fn := f, kind := .normal, roundOf := some l }
 have hb0 : Frame.round l f tmps assign body .normal = b.atR { tmps := tmps, defers := [] } [.code assign, .beginRound, .code body] := by
  simp [Frame.round, Frame.atR, b]
 have hr' : (Fence.wide.inRound l).room ((c :: cs).length + 1 + 0) := hr
 have hF' : (Fence.wide.inRound l).fn b.fn := trivial
 obtain ⟨e, a₁, w₁, hq, harr⟩ := h b [.beginRound, .code body] (c :: cs) rfl hF' hr'
 rw [← hb0] at harr
 cases e with
 | normal =>
  obtain ⟨w₂, hbr, hbody⟩ := hq
  have s1 : StepsIn (Machine.fenced P (Fence.wide.inRound l)) P (lone (b.atR a₁ [.beginRound, .code body]) (c :: cs) w₁) (lone (b.atR a₁ [.code body]) (c :: cs) w₂) :=
   .one (fenced_calm (fr := b.atR a₁ [.beginRound, .code body]) hF' hr' rfl) (stepR_beginRound rfl hbr)
  obtain ⟨e₂, a₂, w₃, hq₂, harr₂⟩ := hbody b [] (c :: cs) rfl hF' hr'
  cases e₂ with
  | normal =>
   obtain ⟨v, w₄, hend, hR⟩ := hq₂
   exact ⟨.returned v, w₄, hR, (StepsIn.trans harr s1).trans (StepsIn.trans harr₂ (.one (fenced_calm (fr := b.atR a₂ []) hF' hr' rfl) (stepR_round_end rfl rfl hend)))⟩
  | ret =>
   obtain ⟨v, w₄, hend, hR⟩ := hq₂
   obtain ⟨k₁, hs⟩ := harr₂.2 rfl
   exact ⟨.returned v, w₄, hR, (StepsIn.trans harr s1).trans (StepsIn.trans hs (.one (fenced_calm (fr := b.atR a₂ (.code .ret :: k₁)) hF' hr' rfl) (stepR_round_ret rfl rfl hend)))⟩
  | exit id =>
   obtain ⟨v, w₄, hend, hR⟩ := hq₂
   obtain ⟨k₁, hk, hs⟩ := harr₂.2 rfl rfl
   exact ⟨.returned v, w₄, hR, (StepsIn.trans harr s1).trans (StepsIn.trans hs (.one (fenced_calm (fr := b.atR a₂ (.code (.exit id) :: k₁)) hF' hr' rfl) (stepR_round_exit rfl rfl hk hend)))⟩
  | goto t =>
   obtain ⟨v, w₄, hend, hR⟩ := hq₂
   obtain ⟨k₁, hk, hs⟩ := harr₂.2 rfl rfl
   exact ⟨.returned v, w₄, hR, (StepsIn.trans harr s1).trans (StepsIn.trans hs (.one (fenced_calm (fr := b.atR a₂ (.code (.goto t) :: k₁)) hF' hr' rfl) (stepR_round_goto rfl rfl hk hend)))⟩
  | panic chain =>
   obtain ⟨hd, hR⟩ := hq₂
   obtain ⟨todo, hs⟩ := harr₂
   exact ⟨.panicked chain, w₃, hR, (StepsIn.trans harr s1).trans (StepsIn.trans hs (.one (fenced_wide _ _) (step_leave_panicked ⟨rfl, hd, fn, hfn⟩)))⟩
  | outgrown => exact hq₂.elim
 | exit id => exact hq.elim
 | goto t => exact hq.elim
 | ret => exact hq.elim
 | panic chain => exact hq.elim
 | outgrown => exact hq.elim
def Iter {α : Type} (P : Program) (g : FuncId) (lb : Array Value) (encs : α → Array Value) (xs : List α) (D : Nat → Prop) (w : World) : Prop :=
 ∀ (l : Nat) (S : Nat → Prop) (J : List α → World → Prop) (Jx : World → Prop) (Jp : List PanicEntry → World → Prop) (W : World),
  Below w.heap.size w W → (∀ k, S k → k < W.heap.size ∧ ¬ D k) →
  (∀ pre W1 W2, J pre W1 → Below W.heap.size W1 W2 → J pre W2) →
  (∀ pre x post W1, xs = pre ++ x :: post → J pre W1 → YieldAt Fence.wide 0 P l (encs x) W1 fun e W' =>
   Kept S W1 W' ∧ ((e = .returned (.bool true) ∧ J (pre ++ [x]) W') ∨ (e = .returned (.bool false) ∧ Jx W') ∨ ∃ ch, e = .panicked ch ∧ Jp ch W')) →
  J [] W →
  CallsIn Fence.wide 0 P g (#[.func (.yield l) #[] #[]] ++ lb) W fun e W' => ((∃ v, e = .returned v) ∧ (J xs W' ∨ Jx W')) ∨ ∃ ch, e = .panicked ch ∧ Jp ch W'
def bodyQ {α : Type} (S : Nat → Prop) (I : List α → World → Prop) (Ix : Code → World → Prop) (Ip : List PanicEntry → World → Prop) (xs : List α) (W : World) : Exit → Act → World → Prop
 | .normal, _, W' => Kept S W W' ∧ I xs W'
 | .ret, _, W' => Kept S W W' ∧ Ix .ret W'
 | .exit id, _, W' => Kept S W W' ∧ Ix (.exit id) W'
 | .goto t, _, W' => Kept S W W' ∧ Ix (.goto t) W'
 | .panic ch, a, W' => a.defers = [] ∧ Kept S W W' ∧ Ip ch W'
 | .outgrown, _, _ => False
def markOf (D : Nat) : Deferred := { target := .collected D, args := #[] }
theorem wpF_range {α : Type} {fn₀ : FuncId} {fn : Func} (hfn : P.funcs[fn₀]? = some fn) {g : Operand} {ps : Array Tmp} {assign body : Code} {Q : Exit → Act → World → Prop} {a : Act} {w : World}
  {gf : Nat} {lb : Array Value} (hg : a.eval g = .func (.func gf) #[] lb) (eg : ∀ args w, (callFunc gf args).run P w = .ok (.enter gf args) w)
  {encs : α → Array Value} {xs : List α} {D : Nat → Prop} {w0 : World} (hseq : Iter P gf lb encs xs D w0) (hb0 : Below w0.heap.size w0 w) (hps : ∀ x, (encs x).size = ps.size)
  (S : Nat → Prop) (hS : ∀ k, S k → k < w.heap.size ∧ ¬ D k) (hD : ∀ k, D k → k < w.heap.size)
  (I : List α → World → Prop) (Ix : Code → World → Prop) (Ip : List PanicEntry → World → Prop)
  (hI : ∀ pre W1 W2, I pre W1 → Below w.heap.size W1 W2 → I pre W2) (hIx : ∀ c W1 W2, Ix c W1 → Below w.heap.size W1 W2 → Ix c W2)
  (h0 : I [] w)
  (hround : ∀ (l : Nat) (pre : List α) (x : α) (post : List α) (W : World), w.heap.size < l → l < W.heap.size → xs = pre ++ x :: post → I pre W →
   assign.wpIn (Fence.wide.inRound l) 0 P (Exit.then (fun a₁ W1 => Below W.heap.size W W1 ∧ ∀ W2, Kept (· = l) W1 W2 → body.wpIn (Fence.wide.inRound l) 0 P (bodyQ S I Ix Ip (pre ++ [x]) W2) a₁ W2) (fun _ _ _ => False))
    { tmps := (ps.zip (encs x)).foldl (fun t (p, v) => t.setIfInBounds p v) a.tmps, defers := [] } W)
  (hdone : ∀ (E : Nat) (W : World), w.heap.size ≤ E → I xs W → W.heap[E]? = some (.deferred (some [])) → Q .normal { a with defers := markOf E :: a.defers } W)
  (hstop : ∀ (E : Nat) (c : Code) (W : World), w.heap.size ≤ E → Ix c W → W.heap[E]? = some (.deferred (some [])) → c.wpIn Fence.wide 0 P Q { a with defers := markOf E :: a.defers } W)
  (hpanic : ∀ (E : Nat) (ch : List PanicEntry) (W : World), w.heap.size ≤ E → Ip ch W → W.heap[E]? = some (.deferred (some [])) → Q (.panic ch) { a with defers := markOf E :: a.defers } W) :
  wpF P fn₀ (Code.rangeFunc g ps assign body) Q a w := by
 intro b k cs hbf hro
 obtain ⟨rec, hrec⟩ : ∃ rec : LoopState → Option Code → Loop, rec = fun st pe => { state := st, pending := pe, fn := fn₀, tmps := a.tmps, params := ps, assign, body, defers := w.heap.size } := ⟨_, rfl⟩
 obtain ⟨W1, hW1⟩ : ∃ W1, (w.alloc (.deferred (some []))).alloc (.loop (rec .ready none)) = W1 := ⟨_, rfl⟩
 have hsz1 : W1.heap.size = w.heap.size + 2 := by rw [← hW1]; simp
 have hL1 : W1.heap[w.heap.size + 1]? = some (.loop (rec .ready none)) := by
  rw [← hW1]; have := heap_alloc_new (w.alloc (.deferred (some []))) (.loop (rec .ready none)); rwa [World.size_alloc] at this
 have hK1 : W1.heap[w.heap.size]? = some (.deferred (some [])) := by
  rw [← hW1]; exact (Below.heap_alloc _ _ _ (by simp)).trans (heap_alloc_new w _)
 have hBW : Below w.heap.size w W1 := by rw [← hW1]; exact (((Below.refl _ w).alloc (Nat.le_refl _) _).alloc (by simp) _)
 have hb1 : Below w0.heap.size w0 W1 := hb0.trans (hBW.mono hb0.size)
 -- the rounds, as the iterator is told of them
 have hrounds : CallsIn Fence.wide 0 P gf (#[.func (.yield (w.heap.size + 1)) #[] #[]] ++ lb) W1 (rangePost Fence.wide 0 P (w.heap.size + 1) Q { a with defers := markOf w.heap.size :: a.defers }) := by
  refine (hseq (w.heap.size + 1) (fun k => S k ∨ k = w.heap.size + 1)
   (fun pre W => I pre W ∧ W.heap[w.heap.size + 1]? = some (.loop (rec .ready none)) ∧ W.heap[w.heap.size]? = some (.deferred (some [])))
   (fun W => ∃ c, Ix c W ∧ W.heap[w.heap.size + 1]? = some (.loop (rec .done (some c))) ∧ W.heap[w.heap.size]? = some (.deferred (some [])))
   (fun ch W => Ip ch W ∧ W.heap[w.heap.size]? = some (.deferred (some [])))
   W1 hb1 ?_ ?_ ?_ ⟨hI _ _ _ h0 hBW, hL1, hK1⟩).mono ?_
  ·rintro k (hk | rfl)
   ·exact ⟨by have := (hS k hk).1; omega, (hS k hk).2⟩
   ·exact ⟨by omega, fun hd => by have := hD _ hd; omega⟩
  ·rintro pre A B ⟨hi, hl, hk⟩ hAB
   exact ⟨hI _ _ _ hi (hAB.mono (by omega)), bget hAB hl (by omega), bget hAB hk (by omega)⟩
  ·rintro pre x post W hx ⟨hi, hl, hk⟩
   have hlt : w.heap.size + 1 < W.heap.size := (Array.getElem?_eq_some_iff.1 hl).1
   have hy := run_yield (P := P) (args := encs x) hl (by rw [hrec]; exact hps x)
   rw [hrec] at hy
   refine ⟨fn₀, _, assign, body, hy, roundIn_of_wpInP hfn (wpIn_mono (hround (w.heap.size + 1) pre x post W (by omega) hlt hx hi) ?_)⟩
   rintro e a₁ Wa hp
   cases e with
   | normal =>
    obtain ⟨hWa, hbd⟩ := hp
    have hla := bget' hWa hl
    have hka := bget' hWa hk
    refine ⟨_, run_beginRound hla (by rw [hrec]), ?_⟩
    have hkb := Kept.putObj (S := (· = w.heap.size + 1)) Wa rfl (.loop { rec .ready none with state := .busy })
    refine wpIn_mono (hbd _ hkb) ?_
    have hl2 : (Wa.putObj (w.heap.size + 1) (.loop { rec .ready none with state := .busy })).heap[w.heap.size + 1]? = some (.loop { rec .ready none with state := .busy }) := World.putObj_heap_same (Array.getElem?_eq_some_iff.1 hla).1
    have hk2 := hkb.get hka (by omega)
    have hns : ¬ S (w.heap.size + 1) := fun h => by have := (hS _ h).1; omega
    have hnk : ¬ S w.heap.size := fun h => by have := (hS _ h).1; omega
    have hlead : Kept (fun k => S k ∨ k = w.heap.size + 1) W (Wa.putObj (w.heap.size + 1) (.loop { rec .ready none with state := .busy })) := (Kept.of_below hWa).trans (hkb.mono fun k h => .inr h)
    have fin : ∀ (jump : Option Code) (W3 : World), Kept S (Wa.putObj (w.heap.size + 1) (.loop { rec .ready none with state := .busy })) W3 →
      (Instr.endRound (w.heap.size + 1) jump).run P W3 = .ok (.bool jump.isNone) (W3.putObj (w.heap.size + 1) (.loop (rec (if jump.isNone then .ready else .done) jump))) ∧
      (W3.putObj (w.heap.size + 1) (.loop (rec (if jump.isNone then .ready else .done) jump))).heap[w.heap.size + 1]? = some (.loop (rec (if jump.isNone then .ready else .done) jump)) ∧
      (W3.putObj (w.heap.size + 1) (.loop (rec (if jump.isNone then .ready else .done) jump))).heap[w.heap.size]? = some (.deferred (some [])) ∧
      Kept (fun k => S k ∨ k = w.heap.size + 1) W (W3.putObj (w.heap.size + 1) (.loop (rec (if jump.isNone then .ready else .done) jump))) := fun jump W3 hk3 => by
     have hl3 := hk3.get hl2 hns
     have hh := run_endRound (P := P) jump hl3
     rw [hrec] at hh ⊢
     refine ⟨hh, World.putObj_heap_same (Array.getElem?_eq_some_iff.1 hl3).1, (World.putObj_heap_other (by omega)).trans (hk3.get hk2 hnk), ?_⟩
     rw [hrec] at hlead hk3
     exact (hlead.trans (hk3.mono fun k h => .inl h)).trans (Kept.putObj _ (.inr rfl) _)
    rintro e a3 W3 hp
    cases e with
    | normal =>
     obtain ⟨hk3, hi3⟩ := hp
     obtain ⟨hr, hl4, hk4, hkk⟩ := fin none W3 hk3
     exact ⟨_, _, hr, hkk, .inl ⟨rfl, hI _ _ _ hi3 (below_putObj _ (by omega) _), hl4, hk4⟩⟩
    | ret =>
     obtain ⟨hk3, hi3⟩ := hp
     obtain ⟨hr, hl4, hk4, hkk⟩ := fin (some .ret) W3 hk3
     exact ⟨_, _, hr, hkk, .inr (.inl ⟨rfl, .ret, hIx _ _ _ hi3 (below_putObj _ (by omega) _), hl4, hk4⟩)⟩
    | exit id =>
     obtain ⟨hk3, hi3⟩ := hp
     obtain ⟨hr, hl4, hk4, hkk⟩ := fin (some (.exit id)) W3 hk3
     exact ⟨_, _, hr, hkk, .inr (.inl ⟨rfl, .exit id, hIx _ _ _ hi3 (below_putObj _ (by omega) _), hl4, hk4⟩)⟩
    | goto t =>
     obtain ⟨hk3, hi3⟩ := hp
     obtain ⟨hr, hl4, hk4, hkk⟩ := fin (some (.goto t)) W3 hk3
     exact ⟨_, _, hr, hkk, .inr (.inl ⟨rfl, .goto t, hIx _ _ _ hi3 (below_putObj _ (by omega) _), hl4, hk4⟩)⟩
    | panic ch =>
     obtain ⟨hd, hk3, hi3⟩ := hp
     exact ⟨hd, hlead.trans (hk3.mono fun k h => .inl h), .inr (.inr ⟨ch, rfl, hi3, hk3.get hk2 hnk⟩)⟩
    | outgrown => exact hp.elim
   | exit id => exact hp.elim
   | goto t => exact hp.elim
   | ret => exact hp.elim
   | panic ch => exact hp.elim
   | outgrown => exact hp.elim
  ·rintro e W2 (⟨⟨v, rfl⟩, (⟨hi, hl, hk⟩ | ⟨c, hi, hl, hk⟩)⟩ | ⟨ch, rfl, hi, hk⟩)
   ·exact ⟨none, _, by have := run_endLoop (P := P) hl (by rw [hrec]; simp); rw [hrec] at this; exact this, hdone _ _ (Nat.le_refl _) (hI _ _ _ hi (below_putObj _ (by omega) _)) ((World.putObj_heap_other (by omega)).trans hk)⟩
   ·exact ⟨some c, _, by have := run_endLoop (P := P) hl (by rw [hrec]; simp); rw [hrec] at this; exact this, hstop _ c _ (Nat.le_refl _) (hIx _ _ _ hi (below_putObj _ (by omega) _)) ((World.putObj_heap_other (by omega)).trans hk)⟩
   ·exact hpanic _ ch _ (Nat.le_refl _) hi hk
 -- the statement's own steps
 have he : (Instr.enterLoop b.fn a.tmps ps assign body b.roundOf).run P w = .ok (w.heap.size + 1, [markOf w.heap.size]) W1 := by
  rw [hro, hbf, ← hW1, hrec]; exact run_enterLoop_outer _ _ _ _ _
 have hres : (resolve a.eval (rangeCall g (w.heap.size + 1)) 0).run P W1 = .ok { target := .fn (.func gf) lb, args := #[.func (.yield (w.heap.size + 1)) #[] #[]] } W1 := by
  simp only [resolve, hg]
  simp [go_sem]
 have hinv : (invoke (.fn (.func gf) lb) #[.func (.yield (w.heap.size + 1)) #[] #[]]).run P W1 = .ok (.enter gf (#[.func (.yield (w.heap.size + 1)) #[] #[]] ++ lb)) W1 := by
  simp [invoke, go_sem, eg]
 have henter := stepR_rangeFunc (P := P) (b := b) (a := a) (k := k) (cs := cs) (w := w) he hres hinv
 obtain ⟨e, w₃, fr, hR, hsteps, hfn', hleave⟩ := hrounds.2 (b.atR { a with defers := [markOf w.heap.size] ++ a.defers } (.inRangeFunc (w.heap.size + 1) :: k) :: cs) (room_wide _)
 cases e with
 | outgrown =>
  obtain ⟨a₀, w₀, hq⟩ := hR
  exact ⟨.outgrown, a₀, w₀, hq, .inr (Outgrown.of_steps (.one henter) hsteps)⟩
 | returned v =>
  obtain ⟨jump, w₄, hend, hj⟩ := hR
  have sback : StepsIn (Machine.fenced P Fence.wide) P (lone (b.atR a (.code (.rangeFunc g ps assign body) :: k)) cs w) (lone (b.atR { a with defers := [markOf w.heap.size] ++ a.defers } ((jump.map Item.code).toList ++ k)) cs w₄) := by
   refine .head (fenced_wide _ _) henter (StepsIn.trans hsteps (.head (fenced_wide _ _) ?_ (.one (fenced_wide _ _) (stepR_endRangeFunc hend))))
   rw [← finish_atR_inRangeFunc (w.heap.size + 1) v]; exact step_leave_returned hleave
  cases jump with
  | none => exact ⟨.normal, _, w₄, hj, sback⟩
  | some c =>
   obtain ⟨e', a'', w₅, hq, harr⟩ := hj b k cs hro trivial (room_wide _)
   exact ⟨e', a'', w₅, hq, .of_steps sback harr⟩
 | panicked chain =>
  refine ⟨.panic chain, _, w₃, hR, .inRangeFunc (w.heap.size + 1) :: k, .head (fenced_wide _ _) henter (StepsIn.trans hsteps (.one (fenced_wide _ _) ?_))⟩
  rw [← Frame.raise_atR]; exact step_leave_panicked hleave
end
end Go.Proofs.YtjpahjfjpkbcnaaGreat
namespace Go.Proofs.YtjpahjfjpkbcnaaGreat
open Go.Proofs Go.RowKit
attribute [local go_sem] Oper.semAt_some
theorem SlV.split {n₀ : Nat} {v : Value} {n : Nat} {R : Nat → Nat → Prop} (h : SlV n₀ v n R) : ∃ (a : Option Addr) (cap : Nat), v = .slice a n cap ∧ cap ≤ maxLen ∧ n ≤ cap ∧ (0 < n → ∃ b o, a = some ⟨b, o, none⟩ ∧ b < n₀ ∧ R b o) := by
 rcases h with ⟨h1, a, cap, h2, h3⟩ | ⟨b, o, cap, h1, h2, h3, h4, h5⟩
 ·exact ⟨a, cap, by rw [h2, h1], h3, by omega, fun h => by omega⟩
 ·exact ⟨some ⟨b, o, none⟩, cap, h1, h3, h2, fun _ => ⟨b, o, rfl, h4, h5⟩⟩
theorem TmAt.shape {n₀ : Nat} {w : World} {T : Tm} {c0 c1 c2 c3 c4 : Value} (h : TmAt n₀ w T (.agg #[c0, c1, c2, c3, c4])) :
  ∃ (o n : Int) (t : ByteArray) (ka : Option Addr) (kn kc : Nat) (pa : Option Addr) (pn pc : Nat), c0 = .int .i64 o ∧ c1 = .int .i64 n ∧ c2 = .string t ∧ c3 = .slice ka kn kc ∧ c4 = .slice pa pn pc := by
 cases T with
 | mk op n text kids pats =>
  unfold TmAt at h
  obtain ⟨kv, pv, h1, h2, h3, h4⟩ := h
  obtain ⟨a, cap, rfl, -⟩ := h3.split
  obtain ⟨a', cap', rfl, -⟩ := h4.split
  simp at h1
  obtain ⟨rfl, rfl, rfl, rfl, rfl⟩ := h1
  exact ⟨_, _, _, _, _, _, _, _, _, rfl, rfl, rfl, rfl, rfl⟩
theorem drop_cons {α : Type} (l : List α) (k : Nat) (h : k < l.length) : l.drop k = l[k] :: l.drop (k + 1) := List.drop_eq_getElem_cons h
theorem kid_lt {op n : Int} {text : ByteArray} {kids : List Tm} {pats : List Pt} (i : Nat) (h : i < kids.length) : SizeOf.sizeOf kids[i] < SizeOf.sizeOf (Tm.mk op n text kids pats) := by
 have := List.sizeOf_lt_of_mem (List.getElem_mem h)
 simp; omega
structure PartM where
 d : Int
 T : Tm
 v : Value
def encM (x : PartM) : Array Value := #[.int .i64 x.d, x.v]
def cellAt (w : World) (b o : Nat) : Value := (w.cell? ⟨b, o, none⟩).getD undef
def baseOf : Value → Nat × Nat
 | .slice (some a) _ _ => (a.block, a.off)
 | _ => (0, 0)
def fieldOf (v : Value) (i : Nat) : Value := match v with | .agg cs => cs.getD i undef | _ => undef
mutual
def segM (w : World) (d : Int) : Tm → Value → List PartM
 | .mk op n text kids pats, v => ⟨d, .mk op n text kids pats, v⟩ :: segsM w (d + 1) kids (baseOf (fieldOf v 3)).1 (baseOf (fieldOf v 3)).2
def segsM (w : World) (d : Int) : List Tm → Nat → Nat → List PartM
 | [], _, _ => []
 | t :: ts, b, o => segM w d t (.agg #[cellAt w b o, cellAt w b (o + 1), cellAt w b (o + 2), cellAt w b (o + 3), cellAt w b (o + 4)]) ++ segsM w d ts b (o + 5)
end
mutual
def heightM : Tm → Nat
 | .mk _ _ _ kids _ => heightsM kids + 1
def heightsM : List Tm → Nat
 | [] => 0
 | t :: ts => max (heightM t) (heightsM ts)
end
theorem heightsM_get : ∀ (ts : List Tm) (i : Nat) (h : i < ts.length), heightM ts[i] ≤ heightsM ts
 | t :: ts, 0, _ => by simp [heightsM]; omega
 | t :: ts, i + 1, h => by have := heightsM_get ts i (by simpa using h); simp [heightsM]; omega
theorem segsM_drop (w : World) (d : Int) (kids : List Tm) (k b o : Nat) (h : k < kids.length) :
  segsM w d (kids.drop k) b (o + k * 5) = segM w d kids[k] (.agg #[cellAt w b (o + k * 5), cellAt w b (o + k * 5 + 1), cellAt w b (o + k * 5 + 2), cellAt w b (o + k * 5 + 3), cellAt w b (o + k * 5 + 4)]) ++ segsM w d (kids.drop (k + 1)) b (o + (k + 1) * 5) := by
 rw [drop_cons kids k h]; conv => lhs; unfold segsM
 rw [show o + (k + 1) * 5 = o + k * 5 + 5 by omega]
structure EnvM (n₀ : Nat) (W0 Wst : World) (l By Bw Bk : Nat) (tw : TypeId) (ty : TypeId) (wf kf : Nat) (W : World) : Prop where
 size : Wst.heap.size ≤ W.heap.size
 below : Below n₀ W0 W
 boxY : W.heap[By]? = some (.cells #[.func (.yield l) #[] #[]] ty (0, 0))
 boxW : W.heap[Bw]? = some (.cells #[.func (.func wf) #[] #[]] tw (0, 0))
 boxK : W.heap[Bk]? = some (.cells #[.func (.func kf) #[] #[.pointer (some ⟨By, 0, none⟩), .pointer (some ⟨Bw, 0, none⟩), .pointer (some ⟨Bk, 0, none⟩)]] ty (0, 0))
theorem EnvM.kept {n₀ : Nat} {W0 Wst : World} {l By Bw Bk : Nat} {tw ty : TypeId} {wf kf : Nat} {W W' : World} (hE : EnvM n₀ W0 Wst l By Bw Bk tw ty wf kf W) {S : Nat → Prop} (hn : n₀ ≤ Wst.heap.size)
  (hS : ∀ k, S k → k < Wst.heap.size ∧ n₀ ≤ k ∧ k ≠ Bw) (hBy : Wst.heap.size ≤ By) (hBk : Wst.heap.size ≤ Bk) (hk : Kept S W W') : EnvM n₀ W0 Wst l By Bw Bk tw ty wf kf W' :=
 ⟨Nat.le_trans hE.size hk.size, hE.below.trans (hk.below (Nat.le_trans hn hE.size) fun k h => (hS k h).2.1), hk.get hE.boxY fun h => by have := (hS _ h).1; omega, hk.get hE.boxW fun h => (hS _ h).2.2 rfl, hk.get hE.boxK fun h => by have := (hS _ h).1; omega⟩
theorem cell_box {W : World} {b j : Nat} {cs : Array Value} {t : TypeId} (h : W.heap[b]? = some (.cells cs t (0, 0))) : W.cell? ⟨b, j, none⟩ = cs[j]? := by simp [World.cell?, h]
theorem kidsOf_any (w : World) (c0 c1 c2 c3 c4 : Value) : CallsIn Fence.wide 0 Tryz.prog 78 #[.agg #[c0, c1, c2, c3, c4]] w fun e w' => e = .returned c3 ∧ Below w.heap.size w w' := by
 refine callsIn_wide.2 ?_
 go_enter Tryz.func78, Tryz.ntmps78
 go_wp2
 go_ret
 exact ⟨rfl, (Below.refl _ _).alloc (Nat.le_refl _) _⟩
set_option maxHeartbeats 2000000 in
set_option maxRecDepth 100000 in
theorem walkM (l : Nat) (S : Nat → Prop) (J : List PartM → World → Prop) (Jx : World → Prop) (Jp : List PanicEntry → World → Prop) (n₀ : Nat) (W0 Wst : World) (hn : n₀ ≤ Wst.heap.size)
  (By Bw Bk : Nat) (hS : ∀ k, S k → k < Wst.heap.size ∧ n₀ ≤ k ∧ k ≠ Bw) (hBy : Wst.heap.size ≤ By) (hBk : Wst.heap.size ≤ Bk)
  (hJ : ∀ pre W1 W2, J pre W1 → Below Wst.heap.size W1 W2 → J pre W2) (xs : List PartM)
  (hY : ∀ pre x post W1, xs = pre ++ x :: post → J pre W1 → YieldAt Fence.wide 0 Tryz.prog l (encM x) W1 fun e W' =>
   Kept S W1 W' ∧ ((e = .returned (.bool true) ∧ J (pre ++ [x]) W') ∨ (e = .returned (.bool false) ∧ Jx W') ∨ ∃ ch, e = .panicked ch ∧ Jp ch W')) (T : Tm) :
  ∀ (v : Value) (d : Int) (pre post : List PartM) (W : World), xs = pre ++ segM W0 d T v ++ post → TmAt n₀ W0 T v → EnvM n₀ W0 Wst l By Bw Bk 98 137 78 119 W → J pre W → 0 ≤ d → d + heightM T ≤ 1000000 →
   CallsIn Fence.wide 0 Tryz.prog 119 #[.int .i64 d, v, .pointer (some ⟨By, 0, none⟩), .pointer (some ⟨Bw, 0, none⟩), .pointer (some ⟨Bk, 0, none⟩)] W fun e W' =>
    (e = .returned (.bool true) ∧ J (pre ++ segM W0 d T v) W' ∧ EnvM n₀ W0 Wst l By Bw Bk 98 137 78 119 W') ∨ (e = .returned (.bool false) ∧ Jx W') ∨ ∃ ch, e = .panicked ch ∧ Jp ch W' := by
 induction hT : SizeOf.sizeOf T using Nat.strongRecOn generalizing T with
 | _ m ih =>
 subst hT
 intro v d pre post W hx hv hE hJp hd0 hd
 have HIH := lh ih; clear ih
 cases T with
 | mk op n text kids pats =>
 have HV := lh hv
 unfold TmAt at hv
 obtain ⟨kv, pv, rfl, htx, hk, -⟩ := hv
 obtain ⟨a, cap, rfl, hcap, hlc, hka⟩ := hk.split
 clear hk
 unfold maxLen at hcap
 have HKA := lh hka; clear hka
 have hhk : heightM (.mk op n text kids pats) = heightsM kids + 1 := by conv => lhs; unfold heightM
 rw [hhk] at hd
 have HX := lh hx
 obtain ⟨seg, hseg⟩ : ∃ seg, segM W0 d (.mk op n text kids pats) (.agg #[.int .i64 op, .int .i64 n, .string text, .slice a kids.length cap, pv]) = ⟨d, .mk op n text kids pats, .agg #[.int .i64 op, .int .i64 n, .string text, .slice a kids.length cap, pv]⟩ :: seg ∧ (∀ b o, a = some ⟨b, o, none⟩ → seg = segsM W0 (d + 1) kids b o) ∧ (a = none → seg = segsM W0 (d + 1) kids 0 0) := by
  refine ⟨_, by unfold segM; rfl, ?_, ?_⟩
  ·rintro b o rfl; rfl
  ·rintro rfl; rfl
 have HS := lh hseg; clear hseg hhk
 -- the yield
 have hbt := heap_alloc_new W (.cells #[.int .i64 op, .int .i64 n, .string text, .slice a kids.length cap, pv] 32)
 have hyl := hY pre ⟨d, .mk op n text kids pats, .agg #[.int .i64 op, .int .i64 n, .string text, .slice a kids.length cap, pv]⟩ (seg ++ post) (W.alloc (.cells #[.int .i64 op, .int .i64 n, .string text, .slice a kids.length cap, pv] 32))
  (by rw [hx, HS.o.1]; simp) (hJ _ _ _ hJp ((Below.refl _ _).alloc hE.size _))
 clear hx
 obtain ⟨fn, tmps, assign, body, hy, hR⟩ := hyl
 have HE := lh hE
 have cY : (W.alloc (.cells #[.int .i64 op, .int .i64 n, .string text, .slice a kids.length cap, pv] 32)).cell? ⟨By, 0, none⟩ = some (.func (.yield l) #[] #[]) := by
  have := bget' ((Below.refl _ W).alloc (Nat.le_refl _) (.cells #[.int .i64 op, .int .i64 n, .string text, .slice a kids.length cap, pv] 32)) hE.boxY
  simp [World.cell?, this]
 clear hE
 dsimp only [encM] at hy
 have HBT := lh hbt; clear hbt
 refine callsIn_of_wp Tryz.func119 rfl trivial ?_ rfl
 simp only [Tryz.ntmps119, List.size_toArray, List.length_cons, List.length_nil, Nat.reduceAdd, Nat.reduceSub, Array.replicate_succ, Array.replicate_zero, List.push_toArray, List.append_toArray, List.nil_append, List.cons_append]
 gi_wp2_with fail
 refine ⟨by simp [Fence.wide], ?_⟩
 have HRR := lh (hR.mono (R' := fun e W' => (e = .returned (.bool true) ∧ Hid (Kept S (W.alloc (.cells #[.int .i64 op, .int .i64 n, .string text, .slice a kids.length cap, pv] 32)) W') ∧ J (pre ++ [⟨d, .mk op n text kids pats, .agg #[.int .i64 op, .int .i64 n, .string text, .slice a kids.length cap, pv]⟩]) W') ∨ (e = .returned (.bool false) ∧ Jx W') ∨ ∃ ch, e = .panicked ch ∧ Jp ch W')
  (fun e W' h => h.2.elim (fun h' => .inl ⟨h'.1, h.1, h'.2⟩) fun h' => .inr h'))
 clear hR hy
 refine RoundIn.mono (HRR.o) ?_
 clear HRR
 rintro e W1 (⟨rfl, HK, hj1⟩ | ⟨rfl, hjx⟩ | ⟨ch, rfl, hjp⟩)
 ·have hE1 : EnvM n₀ W0 Wst l By Bw Bk 98 137 78 119 W1 := (HE.o.kept hn (S := S) hS hBy hBk (Kept.alloc _ _)).kept hn hS hBy hBk HK.o
  have hbx := HK.o.get HBT.o (fun h => by have := (hS _ h).1; have := HE.o.size; omega)
  have d0 : W1.cell? ⟨W.heap.size, 0, none⟩ = some (.int .i64 op) := cell_box hbx
  have d1 : W1.cell? ⟨W.heap.size, 1, none⟩ = some (.int .i64 n) := cell_box hbx
  have d2 : W1.cell? ⟨W.heap.size, 2, none⟩ = some (.string text) := cell_box hbx
  have d3 : W1.cell? ⟨W.heap.size, 3, none⟩ = some (.slice a kids.length cap) := cell_box hbx
  have d4 : W1.cell? ⟨W.heap.size, 4, none⟩ = some pv := cell_box hbx
  have dW : W1.cell? ⟨Bw, 0, none⟩ = some (.func (.func 78) #[] #[]) := cell_box hE1.boxW
  have HE1 := lh hE1; clear hE1 hbx cY
  gi_wp2_with fail
  refine ⟨by simp [Fence.wide], by simp [Fence.wide], ?_⟩
  refine (kidsOf_any _ _ _ _ _ _).mono ?_
  rintro e W2 ⟨rfl, hB2⟩
  have hE2 := HE1.o.kept hn (S := S) hS hBy hBk (.of_below hB2)
  have hj2 := hJ _ _ _ hj1 (hB2.mono HE1.o.size)
  have HE2 := lh hE2; clear hE2 hj1 HE1 d0 d1 d2 d3 d4 dW HK HBT HE hB2
  gi_wp2_with fail
  gi_loopw [19] (fun i wr => ∃ (k : Nat) (dn : List PartM), k ≤ kids.length ∧ i = .int .i64 k ∧ Hid (dn ++ segsM W0 (d + 1) (kids.drop k) (baseOf (.slice a kids.length cap)).1 ((baseOf (.slice a kids.length cap)).2 + k * 5) = seg) ∧ EnvM n₀ W0 Wst l By Bw Bk 98 137 78 119 wr ∧ J (pre ++ ⟨d, .mk op n text kids pats, .agg #[.int .i64 op, .int .i64 n, .string text, .slice a kids.length cap, pv]⟩ :: dn) wr) (fun i _ => kids.length - (intOf i).toNat)
  case atStart =>
   refine ⟨0, [], Nat.zero_le _, rfl, ?_, HE2.o, hj2⟩
   unfold Hid
   rcases a with _ | ⟨b, o, sp⟩
   ·simpa [baseOf] using (HS.o.2.2 rfl).symm
   ·by_cases h0 : 0 < kids.length
    ·obtain ⟨b', o', he, -⟩ := HKA.o h0
     cases he
     simpa [baseOf] using (HS.o.2.1 b o rfl).symm
    ·have hnil : kids = [] := by cases kids <;> simp_all
     subst hnil
     have := HS.o.1
     unfold segM segsM at this
     simp at this
     simp [segsM, this]
  case round =>
   obtain ⟨k, dn, hk', rfl, HD, hEr, hjr⟩ := hrel
   have HER := lh hEr; clear hEr HE2 hj2
   by_cases hlt : k < kids.length
   ·obtain ⟨b, o, rfl, hbn, hts⟩ := HKA.o (by omega)
    obtain ⟨c0, c1, c2, c3, c4, g0, g1, g2, g3, g4, ht⟩ := TmsAt.get kids b o hts k hlt
    have q0 := (HER.o.below.cell (p := ⟨b, _, none⟩) hbn).trans g0
    have q1 := (HER.o.below.cell (p := ⟨b, _, none⟩) hbn).trans g1
    have q2 := (HER.o.below.cell (p := ⟨b, _, none⟩) hbn).trans g2
    have q3 := (HER.o.below.cell (p := ⟨b, _, none⟩) hbn).trans g3
    have q4 := (HER.o.below.cell (p := ⟨b, _, none⟩) hbn).trans g4
    have hsg : segsM W0 (d + 1) (kids.drop k) b (o + k * 5) = segM W0 (d + 1) kids[k] (.agg #[c0, c1, c2, c3, c4]) ++ segsM W0 (d + 1) (kids.drop (k + 1)) b (o + (k + 1) * 5) := by
     rw [segsM_drop W0 (d + 1) kids k b o hlt]; simp [cellAt, g0, g1, g2, g3, g4]
    clear g0 g1 g2 g3 g4
    have HSG := lh hsg; clear hsg
    obtain ⟨oo, nn, tt, ka, kn, kc, pa, pn, pc, rfl, rfl, rfl, rfl, rfl⟩ := ht.shape
    have hh := heightsM_get kids k hlt
    have hEa := HER.o.kept hn (S := S) hS hBy hBk (.alloc wr (.cells #[.int .i64 oo, .int .i64 nn, .string tt, .slice ka kn kc, .slice pa pn pc] 32))
    have hja := hJ _ _ _ hjr ((Below.refl _ _).alloc HER.o.size (.cells #[.int .i64 oo, .int .i64 nn, .string tt, .slice ka kn kc, .slice pa pn pc] 32))
    have cK := cell_box (j := 0) hEa.boxK
    have HEA := lh hEa; clear hEa
    gi_wp2_with fail
    refine ⟨by simp [Fence.wide], by simp [Fence.wide], ?_⟩
    refine (HIH.o _ (kid_lt k hlt) kids[k] rfl _ (d + 1) (pre ++ ⟨d, .mk op n text kids pats, .agg #[.int .i64 op, .int .i64 n, .string text, .slice (some ⟨b, o, none⟩) kids.length cap, pv]⟩ :: dn) (segsM W0 (d + 1) (kids.drop (k + 1)) b (o + (k + 1) * 5) ++ post) _ ?_ ht HEA.o hja (by omega) (by omega)).mono ?_
    ·have := HD.o
     simp only [baseOf] at this
     rw [HX.o, HS.o.1, ← this, HSG.o]; simp
    rintro e W3 (⟨rfl, hj3, hE3⟩ | ⟨rfl, hjx⟩ | ⟨ch, rfl, hjp⟩)
    ·have HE3 := lh hE3; clear hE3
     gi_wp2
     go_roundw
     case rel =>
      refine ⟨k + 1, dn ++ segM W0 (d + 1) kids[k] _, by omega, by go_num, ?_, HE3.o, by simpa using hj3⟩
      have := HD.o
      simp only [baseOf] at this ⊢
      unfold Hid
      rw [← this, HSG.o]; simp
     case measure => simp [intOf]; omega
    ·gi_wp2
     go_ret
     exact .inr (.inl ⟨rfl, hjx⟩)
    ·gi_wp2
     exact ⟨rfl, .inr (.inr ⟨ch, rfl, hjp⟩)⟩
   ·gi_wp2
    go_ret
    refine .inl ⟨rfl, ?_, HER.o⟩
    have h1 : dn = seg := by have := HD.out; rw [List.drop_eq_nil_of_le (by omega)] at this; simpa [segsM] using this
    rw [HS.o.1, ← h1]
    exact hjr
 ·gi_wp2
  go_ret
  exact .inr (.inl ⟨rfl, hjx⟩)
 ·gi_wp2
  exact ⟨rfl, .inr (.inr ⟨ch, rfl, hjp⟩)⟩
set_option maxHeartbeats 2000000 in
set_option maxRecDepth 100000 in
theorem iterM {n₀ : Nat} {w : World} {T : Tm} {cs : Array Value} {Bt Bw : Nat} (hT : TmAt n₀ w T (.agg cs)) (hn : n₀ ≤ w.heap.size) (hBt : w.heap[Bt]? = some (.cells cs 32 (0, 0))) (hBw : w.heap[Bw]? = some (.cells #[.func (.func 78) #[] #[]] 98 (0, 0)))
  (hht : heightM T ≤ 1000) :
  Iter Tryz.prog 118 #[.pointer (some ⟨Bw, 0, none⟩), .pointer (some ⟨Bt, 0, none⟩)] encM (segM w 1 T (.agg cs)) (fun k => k < n₀ ∨ k = Bw ∨ k = Bt) w := by
 intro l S J Jx Jp W hW hS hJ hY h0
 have hwk := walkM l S J Jx Jp n₀ w W (Nat.le_trans hn hW.size) W.heap.size Bw (W.heap.size + 1)
  (fun k hk => ⟨(hS k hk).1, by have := (hS k hk).2; omega, fun e => (hS k hk).2 (.inr (.inl e))⟩) (Nat.le_refl _) (Nat.le_succ _) hJ (segM w 1 T (.agg cs)) hY T (.agg cs) 1 [] []
  ((W.alloc (.cells #[.func (.yield l) #[] #[]] 137)).alloc (.cells #[.func (.func 119) #[] #[.pointer (some ⟨W.heap.size, 0, none⟩), .pointer (some ⟨Bw, 0, none⟩), .pointer (some ⟨W.heap.size + 1, 0, none⟩)]] 137))
  (by simp) hT
  ⟨by simp; omega, (hW.mono hn).trans ((((Below.refl _ W).alloc (Nat.le_trans hn hW.size) _).alloc (by simp; have := hW.size; omega) _)),
   by rw [Below.heap_alloc _ _ _ (by simp)]; exact heap_alloc_new _ _,
   by rw [Below.heap_alloc _ _ _ (by have := (Array.getElem?_eq_some_iff.1 (bget' hW hBw)).1; simp; omega), Below.heap_alloc _ _ _ (Array.getElem?_eq_some_iff.1 (bget' hW hBw)).1]; exact bget' hW hBw,
   by have := heap_alloc_new (W.alloc (.cells #[.func (.yield l) #[] #[]] 137)) (.cells #[.func (.func 119) #[] #[.pointer (some ⟨W.heap.size, 0, none⟩), .pointer (some ⟨Bw, 0, none⟩), .pointer (some ⟨W.heap.size + 1, 0, none⟩)]] 137); simpa using this⟩
  (hJ _ _ _ h0 ((((Below.refl _ W).alloc (Nat.le_refl _) _).alloc (by simp) _))) (by omega) (by omega)
 have HWK := lh hwk; clear hwk
 have hbt := bget' hW hBt
 have hle : Bt < W.heap.size := (Array.getElem?_eq_some_iff.1 hbt).1
 cases T with
 | mk op n text kids pats =>
 have hsh := hT
 unfold TmAt at hsh
 obtain ⟨kv, pv, h1, h2, h3, h4⟩ := hsh
 cases h1
 have e0 : W.cell? ⟨Bt, 0, none⟩ = some (.int .i64 op) := cell_box hbt
 have e1 : W.cell? ⟨Bt, 1, none⟩ = some (.int .i64 n) := cell_box hbt
 have e2 : W.cell? ⟨Bt, 2, none⟩ = some (.string text) := cell_box hbt
 have e3 : W.cell? ⟨Bt, 3, none⟩ = some kv := cell_box hbt
 have e4 : W.cell? ⟨Bt, 4, none⟩ = some pv := cell_box hbt
 clear h2 h3 h4 hbt
 refine callsIn_of_wp Tryz.func118 rfl trivial ?_ rfl
 simp only [Tryz.ntmps118, List.size_toArray, List.length_cons, List.length_nil, Nat.reduceAdd, Nat.reduceSub, Array.replicate_succ, Array.replicate_zero, List.push_toArray, List.append_toArray, List.nil_append, List.cons_append]
 gi_wp2_with fail
 refine ⟨trivial, rfl, ?_⟩
 refine (HWK.o).mono ?_
 rintro e W3 (⟨rfl, hj3, -⟩ | ⟨rfl, hjx⟩ | ⟨ch, rfl, hjp⟩)
 ·gi_wp2
  go_end0
  exact .inl ⟨⟨_, rfl⟩, .inl (by simpa using hj3)⟩
 ·gi_wp2
  go_end0
  exact .inl ⟨⟨_, rfl⟩, .inr hjx⟩
 ·gi_wp2
  exact ⟨rfl, .inr ⟨ch, rfl, hjp⟩⟩
theorem partsM_any (w : World) (op n : Int) (text : ByteArray) (kv pv : Value) : Calls Tryz.prog 77 #[.agg #[.int .i64 op, .int .i64 n, .string text, kv, pv], .func (.func 78) #[] #[]] w fun e w' =>
  e = .returned (.func (.func 118) #[] #[.pointer (some ⟨w.heap.size + 1, 0, none⟩), .pointer (some ⟨w.heap.size, 0, none⟩)]) ∧ w' = (w.alloc (.cells #[.int .i64 op, .int .i64 n, .string text, kv, pv] 32)).alloc (.cells #[.func (.func 78) #[] #[]] 98) := by
 go_enter Tryz.func77, Tryz.ntmps77
 go_wp2
 go_ret
 exact ⟨rfl, rfl⟩
end Go.Proofs.YtjpahjfjpkbcnaaGreat
namespace Go.Proofs.YtjpahjfjpkbcnaaGreat
open Go.Proofs Go.RowKit
attribute [local go_sem] Oper.semAt_some
theorem PtAt.shape {n₀ : Nat} {w : World} {T : Pt} {c0 c1 c2 c3 : Value} (h : PtAt n₀ w T (.agg #[c0, c1, c2, c3])) :
  ∃ (o n : Int) (t : ByteArray) (ka : Option Addr) (kn kc : Nat), c0 = .int .i64 o ∧ c1 = .int .i64 n ∧ c2 = .string t ∧ c3 = .slice ka kn kc := by
 cases T with
 | mk op n text kids =>
  unfold PtAt at h
  obtain ⟨kv, h1, h2, h3⟩ := h
  obtain ⟨a, cap, rfl, -⟩ := h3.split
  simp at h1
  obtain ⟨rfl, rfl, rfl, rfl⟩ := h1
  exact ⟨_, _, _, _, _, _, rfl, rfl, rfl, rfl⟩
theorem kid_ltP {op n : Int} {text : ByteArray} {kids : List Pt} (i : Nat) (h : i < kids.length) : SizeOf.sizeOf kids[i] < SizeOf.sizeOf (Pt.mk op n text kids) := by
 have := List.sizeOf_lt_of_mem (List.getElem_mem h)
 simp; omega
structure PartP where
 d : Int
 T : Pt
 v : Value
def encP (x : PartP) : Array Value := #[.int .i64 x.d, x.v]
mutual
def segP (w : World) (d : Int) : Pt → Value → List PartP
 | .mk op n text kids, v => ⟨d, .mk op n text kids, v⟩ :: segsP w (d + 1) kids (baseOf (fieldOf v 3)).1 (baseOf (fieldOf v 3)).2
def segsP (w : World) (d : Int) : List Pt → Nat → Nat → List PartP
 | [], _, _ => []
 | t :: ts, b, o => segP w d t (.agg #[cellAt w b o, cellAt w b (o + 1), cellAt w b (o + 2), cellAt w b (o + 3)]) ++ segsP w d ts b (o + 4)
end
mutual
def heightP : Pt → Nat
 | .mk _ _ _ kids => heightsP kids + 1
def heightsP : List Pt → Nat
 | [] => 0
 | t :: ts => max (heightP t) (heightsP ts)
end
theorem heightsP_get : ∀ (ts : List Pt) (i : Nat) (h : i < ts.length), heightP ts[i] ≤ heightsP ts
 | t :: ts, 0, _ => by simp [heightsP]; omega
 | t :: ts, i + 1, h => by have := heightsP_get ts i (by simpa using h); simp [heightsP]; omega
theorem segsP_drop (w : World) (d : Int) (kids : List Pt) (k b o : Nat) (h : k < kids.length) :
  segsP w d (kids.drop k) b (o + k * 4) = segP w d kids[k] (.agg #[cellAt w b (o + k * 4), cellAt w b (o + k * 4 + 1), cellAt w b (o + k * 4 + 2), cellAt w b (o + k * 4 + 3)]) ++ segsP w d (kids.drop (k + 1)) b (o + (k + 1) * 4) := by
 rw [drop_cons kids k h]; conv => lhs; unfold segsP
 rw [show o + (k + 1) * 4 = o + k * 4 + 4 by omega]
theorem partsInP_any (w : World) (c0 c1 c2 c3 : Value) : CallsIn Fence.wide 0 Tryz.prog 87 #[.agg #[c0, c1, c2, c3]] w fun e w' => e = .returned c3 ∧ Below w.heap.size w w' := by
 refine callsIn_wide.2 ?_
 go_enter Tryz.func87, Tryz.ntmps87
 go_wp2
 go_ret
 exact ⟨rfl, (Below.refl _ _).alloc (Nat.le_refl _) _⟩
set_option maxHeartbeats 2000000 in
set_option maxRecDepth 100000 in
theorem walkP (l : Nat) (S : Nat → Prop) (J : List PartP → World → Prop) (Jx : World → Prop) (Jp : List PanicEntry → World → Prop) (n₀ : Nat) (W0 Wst : World) (hn : n₀ ≤ Wst.heap.size)
  (By Bw Bk : Nat) (hS : ∀ k, S k → k < Wst.heap.size ∧ n₀ ≤ k ∧ k ≠ Bw) (hBy : Wst.heap.size ≤ By) (hBk : Wst.heap.size ≤ Bk)
  (hJ : ∀ pre W1 W2, J pre W1 → Below Wst.heap.size W1 W2 → J pre W2) (xs : List PartP)
  (hY : ∀ pre x post W1, xs = pre ++ x :: post → J pre W1 → YieldAt Fence.wide 0 Tryz.prog l (encP x) W1 fun e W' =>
   Kept S W1 W' ∧ ((e = .returned (.bool true) ∧ J (pre ++ [x]) W') ∨ (e = .returned (.bool false) ∧ Jx W') ∨ ∃ ch, e = .panicked ch ∧ Jp ch W')) (T : Pt) :
  ∀ (v : Value) (d : Int) (pre post : List PartP) (W : World), xs = pre ++ segP W0 d T v ++ post → PtAt n₀ W0 T v → EnvM n₀ W0 Wst l By Bw Bk 103 142 87 125 W → J pre W → 0 ≤ d → d + heightP T ≤ 1000000 →
   CallsIn Fence.wide 0 Tryz.prog 125 #[.int .i64 d, v, .pointer (some ⟨By, 0, none⟩), .pointer (some ⟨Bw, 0, none⟩), .pointer (some ⟨Bk, 0, none⟩)] W fun e W' =>
    (e = .returned (.bool true) ∧ J (pre ++ segP W0 d T v) W' ∧ EnvM n₀ W0 Wst l By Bw Bk 103 142 87 125 W') ∨ (e = .returned (.bool false) ∧ Jx W') ∨ ∃ ch, e = .panicked ch ∧ Jp ch W' := by
 induction hT : SizeOf.sizeOf T using Nat.strongRecOn generalizing T with
 | _ m ih =>
 subst hT
 intro v d pre post W hx hv hE hJp hd0 hd
 have HIH := lh ih; clear ih
 cases T with
 | mk op n text kids =>
 have HV := lh hv
 unfold PtAt at hv
 obtain ⟨kv, rfl, htx, hk⟩ := hv
 obtain ⟨a, cap, rfl, hcap, hlc, hka⟩ := hk.split
 clear hk
 unfold maxLen at hcap
 have HKA := lh hka; clear hka
 have hhk : heightP (.mk op n text kids) = heightsP kids + 1 := by conv => lhs; unfold heightP
 rw [hhk] at hd
 have HX := lh hx
 obtain ⟨seg, hseg⟩ : ∃ seg, segP W0 d (.mk op n text kids) (.agg #[.int .i64 op, .int .i64 n, .string text, .slice a kids.length cap]) = ⟨d, .mk op n text kids, .agg #[.int .i64 op, .int .i64 n, .string text, .slice a kids.length cap]⟩ :: seg ∧ (∀ b o, a = some ⟨b, o, none⟩ → seg = segsP W0 (d + 1) kids b o) ∧ (a = none → seg = segsP W0 (d + 1) kids 0 0) := by
  refine ⟨_, by unfold segP; rfl, ?_, ?_⟩
  ·rintro b o rfl; rfl
  ·rintro rfl; rfl
 have HS := lh hseg; clear hseg hhk
 -- the yield
 have hbt := heap_alloc_new W (.cells #[.int .i64 op, .int .i64 n, .string text, .slice a kids.length cap] 35)
 have hyl := hY pre ⟨d, .mk op n text kids, .agg #[.int .i64 op, .int .i64 n, .string text, .slice a kids.length cap]⟩ (seg ++ post) (W.alloc (.cells #[.int .i64 op, .int .i64 n, .string text, .slice a kids.length cap] 35))
  (by rw [hx, HS.o.1]; simp) (hJ _ _ _ hJp ((Below.refl _ _).alloc hE.size _))
 clear hx
 obtain ⟨fn, tmps, assign, body, hy, hR⟩ := hyl
 have HE := lh hE
 have cY : (W.alloc (.cells #[.int .i64 op, .int .i64 n, .string text, .slice a kids.length cap] 35)).cell? ⟨By, 0, none⟩ = some (.func (.yield l) #[] #[]) := by
  have := bget' ((Below.refl _ W).alloc (Nat.le_refl _) (.cells #[.int .i64 op, .int .i64 n, .string text, .slice a kids.length cap] 35)) hE.boxY
  simp [World.cell?, this]
 clear hE
 dsimp only [encP] at hy
 have HBT := lh hbt; clear hbt
 refine callsIn_of_wp Tryz.func125 rfl trivial ?_ rfl
 simp only [Tryz.ntmps125, List.size_toArray, List.length_cons, List.length_nil, Nat.reduceAdd, Nat.reduceSub, Array.replicate_succ, Array.replicate_zero, List.push_toArray, List.append_toArray, List.nil_append, List.cons_append]
 gi_wp2_with fail
 refine ⟨by simp [Fence.wide], ?_⟩
 have HRR := lh (hR.mono (R' := fun e W' => (e = .returned (.bool true) ∧ Hid (Kept S (W.alloc (.cells #[.int .i64 op, .int .i64 n, .string text, .slice a kids.length cap] 35)) W') ∧ J (pre ++ [⟨d, .mk op n text kids, .agg #[.int .i64 op, .int .i64 n, .string text, .slice a kids.length cap]⟩]) W') ∨ (e = .returned (.bool false) ∧ Jx W') ∨ ∃ ch, e = .panicked ch ∧ Jp ch W')
  (fun e W' h => h.2.elim (fun h' => .inl ⟨h'.1, h.1, h'.2⟩) fun h' => .inr h'))
 clear hR hy
 refine RoundIn.mono (HRR.o) ?_
 clear HRR
 rintro e W1 (⟨rfl, HK, hj1⟩ | ⟨rfl, hjx⟩ | ⟨ch, rfl, hjp⟩)
 ·have hE1 : EnvM n₀ W0 Wst l By Bw Bk 103 142 87 125 W1 := (HE.o.kept hn (S := S) hS hBy hBk (Kept.alloc _ _)).kept hn hS hBy hBk HK.o
  have hbx := HK.o.get HBT.o (fun h => by have := (hS _ h).1; have := HE.o.size; omega)
  have d0 : W1.cell? ⟨W.heap.size, 0, none⟩ = some (.int .i64 op) := cell_box hbx
  have d1 : W1.cell? ⟨W.heap.size, 1, none⟩ = some (.int .i64 n) := cell_box hbx
  have d2 : W1.cell? ⟨W.heap.size, 2, none⟩ = some (.string text) := cell_box hbx
  have d3 : W1.cell? ⟨W.heap.size, 3, none⟩ = some (.slice a kids.length cap) := cell_box hbx
  have dW : W1.cell? ⟨Bw, 0, none⟩ = some (.func (.func 87) #[] #[]) := cell_box hE1.boxW
  have HE1 := lh hE1; clear hE1 hbx cY
  gi_wp2_with fail
  refine ⟨by simp [Fence.wide], by simp [Fence.wide], ?_⟩
  refine (partsInP_any _ _ _ _ _).mono ?_
  rintro e W2 ⟨rfl, hB2⟩
  have hE2 := HE1.o.kept hn (S := S) hS hBy hBk (.of_below hB2)
  have hj2 := hJ _ _ _ hj1 (hB2.mono HE1.o.size)
  have HE2 := lh hE2; clear hE2 hj1 HE1 d0 d1 d2 d3 dW HK HBT HE hB2
  gi_wp2_with fail
  gi_loopw [19] (fun i wr => ∃ (k : Nat) (dn : List PartP), k ≤ kids.length ∧ i = .int .i64 k ∧ Hid (dn ++ segsP W0 (d + 1) (kids.drop k) (baseOf (.slice a kids.length cap)).1 ((baseOf (.slice a kids.length cap)).2 + k * 4) = seg) ∧ EnvM n₀ W0 Wst l By Bw Bk 103 142 87 125 wr ∧ J (pre ++ ⟨d, .mk op n text kids, .agg #[.int .i64 op, .int .i64 n, .string text, .slice a kids.length cap]⟩ :: dn) wr) (fun i _ => kids.length - (intOf i).toNat)
  case atStart =>
   refine ⟨0, [], Nat.zero_le _, rfl, ?_, HE2.o, hj2⟩
   unfold Hid
   rcases a with _ | ⟨b, o, sp⟩
   ·simpa [baseOf] using (HS.o.2.2 rfl).symm
   ·by_cases h0 : 0 < kids.length
    ·obtain ⟨b', o', he, -⟩ := HKA.o h0
     cases he
     simpa [baseOf] using (HS.o.2.1 b o rfl).symm
    ·have hnil : kids = [] := by cases kids <;> simp_all
     subst hnil
     have := HS.o.1
     unfold segP segsP at this
     simp at this
     simp [segsP, this]
  case round =>
   obtain ⟨k, dn, hk', rfl, HD, hEr, hjr⟩ := hrel
   have HER := lh hEr; clear hEr HE2 hj2
   by_cases hlt : k < kids.length
   ·obtain ⟨b, o, rfl, hbn, hts⟩ := HKA.o (by omega)
    obtain ⟨c0, c1, c2, c3, g0, g1, g2, g3, ht⟩ := PtsAt.get kids b o hts k hlt
    have q0 := (HER.o.below.cell (p := ⟨b, _, none⟩) hbn).trans g0
    have q1 := (HER.o.below.cell (p := ⟨b, _, none⟩) hbn).trans g1
    have q2 := (HER.o.below.cell (p := ⟨b, _, none⟩) hbn).trans g2
    have q3 := (HER.o.below.cell (p := ⟨b, _, none⟩) hbn).trans g3
    have hsg : segsP W0 (d + 1) (kids.drop k) b (o + k * 4) = segP W0 (d + 1) kids[k] (.agg #[c0, c1, c2, c3]) ++ segsP W0 (d + 1) (kids.drop (k + 1)) b (o + (k + 1) * 4) := by
     rw [segsP_drop W0 (d + 1) kids k b o hlt]; simp [cellAt, g0, g1, g2, g3]
    clear g0 g1 g2 g3
    have HSG := lh hsg; clear hsg
    obtain ⟨oo, nn, tt, ka, kn, kc, rfl, rfl, rfl, rfl⟩ := ht.shape
    have hh := heightsP_get kids k hlt
    have hEa := HER.o.kept hn (S := S) hS hBy hBk (.alloc wr (.cells #[.int .i64 oo, .int .i64 nn, .string tt, .slice ka kn kc] 35))
    have hja := hJ _ _ _ hjr ((Below.refl _ _).alloc HER.o.size (.cells #[.int .i64 oo, .int .i64 nn, .string tt, .slice ka kn kc] 35))
    have cK := cell_box (j := 0) hEa.boxK
    have HEA := lh hEa; clear hEa
    gi_wp2_with fail
    refine ⟨by simp [Fence.wide], by simp [Fence.wide], ?_⟩
    refine (HIH.o _ (kid_ltP k hlt) kids[k] rfl _ (d + 1) (pre ++ ⟨d, .mk op n text kids, .agg #[.int .i64 op, .int .i64 n, .string text, .slice (some ⟨b, o, none⟩) kids.length cap]⟩ :: dn) (segsP W0 (d + 1) (kids.drop (k + 1)) b (o + (k + 1) * 4) ++ post) _ ?_ ht HEA.o hja (by omega) (by omega)).mono ?_
    ·have := HD.o
     simp only [baseOf] at this
     rw [HX.o, HS.o.1, ← this, HSG.o]; simp
    rintro e W3 (⟨rfl, hj3, hE3⟩ | ⟨rfl, hjx⟩ | ⟨ch, rfl, hjp⟩)
    ·have HE3 := lh hE3; clear hE3
     gi_wp2
     go_roundw
     case rel =>
      refine ⟨k + 1, dn ++ segP W0 (d + 1) kids[k] _, by omega, by go_num, ?_, HE3.o, by simpa using hj3⟩
      have := HD.o
      simp only [baseOf] at this ⊢
      unfold Hid
      rw [← this, HSG.o]; simp
     case measure => simp [intOf]; omega
    ·gi_wp2
     go_ret
     exact .inr (.inl ⟨rfl, hjx⟩)
    ·gi_wp2
     exact ⟨rfl, .inr (.inr ⟨ch, rfl, hjp⟩)⟩
   ·gi_wp2
    go_ret
    refine .inl ⟨rfl, ?_, HER.o⟩
    have h1 : dn = seg := by have := HD.out; rw [List.drop_eq_nil_of_le (by omega)] at this; simpa [segsP] using this
    rw [HS.o.1, ← h1]
    exact hjr
 ·gi_wp2
  go_ret
  exact .inr (.inl ⟨rfl, hjx⟩)
 ·gi_wp2
  exact ⟨rfl, .inr (.inr ⟨ch, rfl, hjp⟩)⟩
set_option maxHeartbeats 2000000 in
set_option maxRecDepth 100000 in
theorem iterP {n₀ : Nat} {w : World} {T : Pt} {cs : Array Value} {Bt Bw : Nat} (hT : PtAt n₀ w T (.agg cs)) (hn : n₀ ≤ w.heap.size) (hBt : w.heap[Bt]? = some (.cells cs 35 (0, 0))) (hBw : w.heap[Bw]? = some (.cells #[.func (.func 87) #[] #[]] 103 (0, 0)))
  (hht : heightP T ≤ 1000) :
  Iter Tryz.prog 124 #[.pointer (some ⟨Bw, 0, none⟩), .pointer (some ⟨Bt, 0, none⟩)] encP (segP w 1 T (.agg cs)) (fun k => k < n₀ ∨ k = Bw ∨ k = Bt) w := by
 intro l S J Jx Jp W hW hS hJ hY h0
 have hwk := walkP l S J Jx Jp n₀ w W (Nat.le_trans hn hW.size) W.heap.size Bw (W.heap.size + 1)
  (fun k hk => ⟨(hS k hk).1, by have := (hS k hk).2; omega, fun e => (hS k hk).2 (.inr (.inl e))⟩) (Nat.le_refl _) (Nat.le_succ _) hJ (segP w 1 T (.agg cs)) hY T (.agg cs) 1 [] []
  ((W.alloc (.cells #[.func (.yield l) #[] #[]] 142)).alloc (.cells #[.func (.func 125) #[] #[.pointer (some ⟨W.heap.size, 0, none⟩), .pointer (some ⟨Bw, 0, none⟩), .pointer (some ⟨W.heap.size + 1, 0, none⟩)]] 142))
  (by simp) hT
  ⟨by simp; omega, (hW.mono hn).trans ((((Below.refl _ W).alloc (Nat.le_trans hn hW.size) _).alloc (by simp; have := hW.size; omega) _)),
   by rw [Below.heap_alloc _ _ _ (by simp)]; exact heap_alloc_new _ _,
   by rw [Below.heap_alloc _ _ _ (by have := (Array.getElem?_eq_some_iff.1 (bget' hW hBw)).1; simp; omega), Below.heap_alloc _ _ _ (Array.getElem?_eq_some_iff.1 (bget' hW hBw)).1]; exact bget' hW hBw,
   by have := heap_alloc_new (W.alloc (.cells #[.func (.yield l) #[] #[]] 142)) (.cells #[.func (.func 125) #[] #[.pointer (some ⟨W.heap.size, 0, none⟩), .pointer (some ⟨Bw, 0, none⟩), .pointer (some ⟨W.heap.size + 1, 0, none⟩)]] 142); simpa using this⟩
  (hJ _ _ _ h0 ((((Below.refl _ W).alloc (Nat.le_refl _) _).alloc (by simp) _))) (by omega) (by omega)
 have HWK := lh hwk; clear hwk
 have hbt := bget' hW hBt
 have hle : Bt < W.heap.size := (Array.getElem?_eq_some_iff.1 hbt).1
 cases T with
 | mk op n text kids =>
 have hsh := hT
 unfold PtAt at hsh
 obtain ⟨kv, h1, h2, h3⟩ := hsh
 cases h1
 have e0 : W.cell? ⟨Bt, 0, none⟩ = some (.int .i64 op) := cell_box hbt
 have e1 : W.cell? ⟨Bt, 1, none⟩ = some (.int .i64 n) := cell_box hbt
 have e2 : W.cell? ⟨Bt, 2, none⟩ = some (.string text) := cell_box hbt
 have e3 : W.cell? ⟨Bt, 3, none⟩ = some kv := cell_box hbt
 clear h2 h3 hbt
 refine callsIn_of_wp Tryz.func124 rfl trivial ?_ rfl
 simp only [Tryz.ntmps124, List.size_toArray, List.length_cons, List.length_nil, Nat.reduceAdd, Nat.reduceSub, Array.replicate_succ, Array.replicate_zero, List.push_toArray, List.append_toArray, List.nil_append, List.cons_append]
 gi_wp2_with fail
 refine ⟨trivial, rfl, ?_⟩
 refine (HWK.o).mono ?_
 rintro e W3 (⟨rfl, hj3, -⟩ | ⟨rfl, hjx⟩ | ⟨ch, rfl, hjp⟩)
 ·gi_wp2
  go_end0
  exact .inl ⟨⟨_, rfl⟩, .inl (by simpa using hj3)⟩
 ·gi_wp2
  go_end0
  exact .inl ⟨⟨_, rfl⟩, .inr hjx⟩
 ·gi_wp2
  exact ⟨rfl, .inr ⟨ch, rfl, hjp⟩⟩
theorem partsP_any (w : World) (op n : Int) (text : ByteArray) (kv : Value) : Calls Tryz.prog 86 #[.agg #[.int .i64 op, .int .i64 n, .string text, kv], .func (.func 87) #[] #[]] w fun e w' =>
  e = .returned (.func (.func 124) #[] #[.pointer (some ⟨w.heap.size + 1, 0, none⟩), .pointer (some ⟨w.heap.size, 0, none⟩)]) ∧ w' = (w.alloc (.cells #[.int .i64 op, .int .i64 n, .string text, kv] 35)).alloc (.cells #[.func (.func 87) #[] #[]] 103) := by
 go_enter Tryz.func86, Tryz.ntmps86
 go_wp2
 go_ret
 exact ⟨rfl, rfl⟩
end Go.Proofs.YtjpahjfjpkbcnaaGreat
namespace Go.Proofs.YtjpahjfjpkbcnaaGreat
open Go.Proofs Go.RowKit
def SlIn (B : Nat → Prop) (v : Value) (n : Nat) (R : Nat → Nat → Prop) : Prop :=
 (n = 0 ∧ v = .slice none 0 0) ∨ ∃ b o cap, v = .slice (some ⟨b, o, none⟩) n cap ∧ n ≤ cap ∧ cap ≤ maxLen ∧ B b ∧ R b o
theorem SlIn.mono {B B' : Nat → Prop} {v : Value} {n : Nat} {R R' : Nat → Nat → Prop} (h : SlIn B v n R) (hB : ∀ b, B b → B' b) (hr : ∀ b o, B b → R b o → R' b o) : SlIn B' v n R' := by
 rcases h with h | ⟨b, o, cap, h1, h2, h3, h4, h5⟩
 ·exact .inl h
 ·exact .inr ⟨b, o, cap, h1, h2, h3, hB b h4, hr b o h4 h5⟩
theorem SlIn.to {B : Nat → Prop} {n₀ : Nat} {v : Value} {n : Nat} {R R' : Nat → Nat → Prop} (h : SlIn B v n R) (hB : ∀ b, B b → b < n₀) (hr : ∀ b o, R b o → R' b o) : SlV n₀ v n R' := by
 rcases h with h | ⟨b, o, cap, h1, h2, h3, h4, h5⟩
 ·exact .inl ⟨h.1, none, 0, h.2, Nat.zero_le _⟩
 ·exact .inr ⟨b, o, cap, h1, h2, h3, hB b h4, hr b o h5⟩
theorem SlIn.split {B : Nat → Prop} {v : Value} {n : Nat} {R : Nat → Nat → Prop} (h : SlIn B v n R) : ∃ a cap, v = .slice a n cap := by
 rcases h with ⟨rfl, rfl⟩ | ⟨b, o, cap, rfl, _⟩
 ·exact ⟨_, _, rfl⟩
 ·exact ⟨_, _, rfl⟩
mutual
def PtIn (B : Nat → Prop) (w : World) : Pt → Value → Prop
 | .mk form n text parts, v => ∃ kv, v = .agg #[.int .i64 form, .int .i64 n, .string text, kv] ∧ text.size ≤ maxLen ∧ SlIn B kv parts.length fun b o => PtsIn B w parts b o
def PtsIn (B : Nat → Prop) (w : World) : List Pt → Nat → Nat → Prop
 | [], _, _ => True
 | p :: ps, b, o => (∃ c0 c1 c2 c3, w.cell? ⟨b, o, none⟩ = some c0 ∧ w.cell? ⟨b, o + 1, none⟩ = some c1 ∧ w.cell? ⟨b, o + 2, none⟩ = some c2 ∧ w.cell? ⟨b, o + 3, none⟩ = some c3 ∧ PtIn B w p (.agg #[c0, c1, c2, c3])) ∧ PtsIn B w ps b (o + 4)
end
mutual
def TmIn (B : Nat → Prop) (w : World) : Tm → Value → Prop
 | .mk op n text kids pats, v => ∃ kv pv, v = .agg #[.int .i64 op, .int .i64 n, .string text, kv, pv] ∧ text.size ≤ maxLen ∧ SlIn B kv kids.length (fun b o => TmsIn B w kids b o) ∧ SlIn B pv pats.length (fun b o => PtsIn B w pats b o)
def TmsIn (B : Nat → Prop) (w : World) : List Tm → Nat → Nat → Prop
 | [], _, _ => True
 | p :: ps, b, o => (∃ c0 c1 c2 c3 c4, w.cell? ⟨b, o, none⟩ = some c0 ∧ w.cell? ⟨b, o + 1, none⟩ = some c1 ∧ w.cell? ⟨b, o + 2, none⟩ = some c2 ∧ w.cell? ⟨b, o + 3, none⟩ = some c3 ∧ w.cell? ⟨b, o + 4, none⟩ = some c4 ∧ TmIn B w p (.agg #[c0, c1, c2, c3, c4])) ∧ TmsIn B w ps b (o + 5)
end
theorem cell_of_heap {w w' : World} {b o : Nat} (h : w'.heap[b]? = w.heap[b]?) : w'.cell? ⟨b, o, none⟩ = w.cell? ⟨b, o, none⟩ := by simp [World.cell?, h]
mutual
theorem PtIn.keep {B B' : Nat → Prop} {w w' : World} (hb : ∀ b, B b → w'.heap[b]? = w.heap[b]?) (hB : ∀ b, B b → B' b) : ∀ (p : Pt) (v : Value), PtIn B w p v → PtIn B' w' p v
 | .mk form n text parts, v, h => by
  unfold PtIn at h ⊢
  obtain ⟨kv, h1, h2, h3⟩ := h
  exact ⟨kv, h1, h2, h3.mono hB fun b o hlt hr => PtsIn.keep hb hB parts b o hlt hr⟩
theorem PtsIn.keep {B B' : Nat → Prop} {w w' : World} (hb : ∀ b, B b → w'.heap[b]? = w.heap[b]?) (hB : ∀ b, B b → B' b) : ∀ (ps : List Pt) (b o : Nat), B b → PtsIn B w ps b o → PtsIn B' w' ps b o
 | [], _, _, _, _ => by unfold PtsIn; trivial
 | p :: ps, b, o, hlt, h => by
  unfold PtsIn at h ⊢
  obtain ⟨⟨c0, c1, c2, c3, h0, h1, h2, h3, hp⟩, hs⟩ := h
  exact ⟨⟨c0, c1, c2, c3, (cell_of_heap (hb b hlt)).trans h0, (cell_of_heap (hb b hlt)).trans h1, (cell_of_heap (hb b hlt)).trans h2, (cell_of_heap (hb b hlt)).trans h3, PtIn.keep hb hB p _ hp⟩, PtsIn.keep hb hB ps b _ hlt hs⟩
end
mutual
theorem TmIn.keep {B B' : Nat → Prop} {w w' : World} (hb : ∀ b, B b → w'.heap[b]? = w.heap[b]?) (hB : ∀ b, B b → B' b) : ∀ (p : Tm) (v : Value), TmIn B w p v → TmIn B' w' p v
 | .mk op n text kids pats, v, h => by
  unfold TmIn at h ⊢
  obtain ⟨kv, pv, h1, h2, h3, h4⟩ := h
  exact ⟨kv, pv, h1, h2, h3.mono hB fun b o hlt hr => TmsIn.keep hb hB kids b o hlt hr, h4.mono hB fun b o hlt hr => PtsIn.keep hb hB pats b o hlt hr⟩
theorem TmsIn.keep {B B' : Nat → Prop} {w w' : World} (hb : ∀ b, B b → w'.heap[b]? = w.heap[b]?) (hB : ∀ b, B b → B' b) : ∀ (ps : List Tm) (b o : Nat), B b → TmsIn B w ps b o → TmsIn B' w' ps b o
 | [], _, _, _, _ => by unfold TmsIn; trivial
 | p :: ps, b, o, hlt, h => by
  unfold TmsIn at h ⊢
  obtain ⟨⟨c0, c1, c2, c3, c4, h0, h1, h2, h3, h4, hp⟩, hs⟩ := h
  exact ⟨⟨c0, c1, c2, c3, c4, (cell_of_heap (hb b hlt)).trans h0, (cell_of_heap (hb b hlt)).trans h1, (cell_of_heap (hb b hlt)).trans h2, (cell_of_heap (hb b hlt)).trans h3, (cell_of_heap (hb b hlt)).trans h4, TmIn.keep hb hB p _ hp⟩, TmsIn.keep hb hB ps b _ hlt hs⟩
end
mutual
theorem PtIn.to {B : Nat → Prop} {n₀ : Nat} {w : World} (hB : ∀ b, B b → b < n₀) : ∀ (p : Pt) (v : Value), PtIn B w p v → PtAt n₀ w p v
 | .mk form n text parts, v, h => by
  unfold PtIn at h; unfold PtAt
  obtain ⟨kv, h1, h2, h3⟩ := h
  exact ⟨kv, h1, h2, h3.to hB fun b o hr => PtsIn.to hB parts b o hr⟩
theorem PtsIn.to {B : Nat → Prop} {n₀ : Nat} {w : World} (hB : ∀ b, B b → b < n₀) : ∀ (ps : List Pt) (b o : Nat), PtsIn B w ps b o → PtsAt n₀ w ps b o
 | [], _, _, _ => by unfold PtsAt; trivial
 | p :: ps, b, o, h => by
  unfold PtsIn at h; unfold PtsAt
  obtain ⟨⟨c0, c1, c2, c3, h0, h1, h2, h3, hp⟩, hs⟩ := h
  exact ⟨⟨c0, c1, c2, c3, h0, h1, h2, h3, PtIn.to hB p _ hp⟩, PtsIn.to hB ps b _ hs⟩
end
mutual
theorem TmIn.to {B : Nat → Prop} {n₀ : Nat} {w : World} (hB : ∀ b, B b → b < n₀) : ∀ (p : Tm) (v : Value), TmIn B w p v → TmAt n₀ w p v
 | .mk op n text kids pats, v, h => by
  unfold TmIn at h; unfold TmAt
  obtain ⟨kv, pv, h1, h2, h3, h4⟩ := h
  exact ⟨kv, pv, h1, h2, h3.to hB fun b o hr => TmsIn.to hB kids b o hr, h4.to hB fun b o hr => PtsIn.to hB pats b o hr⟩
theorem TmsIn.to {B : Nat → Prop} {n₀ : Nat} {w : World} (hB : ∀ b, B b → b < n₀) : ∀ (ps : List Tm) (b o : Nat), TmsIn B w ps b o → TmsAt n₀ w ps b o
 | [], _, _, _ => by unfold TmsAt; trivial
 | p :: ps, b, o, h => by
  unfold TmsIn at h; unfold TmsAt
  obtain ⟨⟨c0, c1, c2, c3, c4, h0, h1, h2, h3, h4, hp⟩, hs⟩ := h
  exact ⟨⟨c0, c1, c2, c3, c4, h0, h1, h2, h3, h4, TmIn.to hB p _ hp⟩, TmsIn.to hB ps b _ hs⟩
end
def Fresh (W W' : World) (b : Nat) : Prop := W.heap.size ≤ b ∧ b < W'.heap.size
def TmNew (W W' : World) (T : Tm) (v : Value) : Prop := TmIn (Fresh W W') W' T v
def PtNew (W W' : World) (T : Pt) (v : Value) : Prop := PtIn (Fresh W W') W' T v
theorem TmNew.at {W W' : World} {T : Tm} {v : Value} (h : TmNew W W' T v) : TmAt W'.heap.size W' T v := TmIn.to (fun _ h => h.2) T v h
theorem PtNew.at {W W' : World} {T : Pt} {v : Value} (h : PtNew W W' T v) : PtAt W'.heap.size W' T v := PtIn.to (fun _ h => h.2) T v h
theorem PtIn.shape {B : Nat → Prop} {w : World} {T : Pt} {v : Value} (h : PtIn B w T v) : ∃ (o n : Int) (t : ByteArray) (ka : Option Addr) (kn kc : Nat), v = .agg #[.int .i64 o, .int .i64 n, .string t, .slice ka kn kc] := by
 cases T with
 | mk op n text kids =>
  unfold PtIn at h
  obtain ⟨kv, h1, h2, h3⟩ := h
  obtain ⟨a, cap, rfl⟩ := h3.split
  exact ⟨_, _, _, _, _, _, h1⟩
theorem TmIn.shape {B : Nat → Prop} {w : World} {T : Tm} {v : Value} (h : TmIn B w T v) : ∃ (o n : Int) (t : ByteArray) (ka : Option Addr) (kn kc : Nat) (pa : Option Addr) (pn pc : Nat), v = .agg #[.int .i64 o, .int .i64 n, .string t, .slice ka kn kc, .slice pa pn pc] := by
 cases T with
 | mk op n text kids pats =>
  unfold TmIn at h
  obtain ⟨kv, pv, h1, h2, h3, h4⟩ := h
  obtain ⟨a, cap, rfl⟩ := h3.split
  obtain ⟨a', cap', rfl⟩ := h4.split
  exact ⟨_, _, _, _, _, _, _, _, _, h1⟩
def FlatP (B : Nat → Prop) (w : World) : List Pt → List Value → Prop
 | [], cs => cs = []
 | p :: ps, cs => ∃ c0 c1 c2 c3 r, cs = c0 :: c1 :: c2 :: c3 :: r ∧ PtIn B w p (.agg #[c0, c1, c2, c3]) ∧ FlatP B w ps r
def FlatM (B : Nat → Prop) (w : World) : List Tm → List Value → Prop
 | [], cs => cs = []
 | p :: ps, cs => ∃ c0 c1 c2 c3 c4 r, cs = c0 :: c1 :: c2 :: c3 :: c4 :: r ∧ TmIn B w p (.agg #[c0, c1, c2, c3, c4]) ∧ FlatM B w ps r
theorem FlatP.keep {B B' : Nat → Prop} {w w' : World} (hb : ∀ b, B b → w'.heap[b]? = w.heap[b]?) (hB : ∀ b, B b → B' b) : ∀ (ps : List Pt) (cs : List Value), FlatP B w ps cs → FlatP B' w' ps cs
 | [], _, h => h
 | _ :: ps, _, ⟨c0, c1, c2, c3, r, h1, h2, h3⟩ => ⟨c0, c1, c2, c3, r, h1, PtIn.keep hb hB _ _ h2, FlatP.keep hb hB ps r h3⟩
theorem FlatM.keep {B B' : Nat → Prop} {w w' : World} (hb : ∀ b, B b → w'.heap[b]? = w.heap[b]?) (hB : ∀ b, B b → B' b) : ∀ (ps : List Tm) (cs : List Value), FlatM B w ps cs → FlatM B' w' ps cs
 | [], _, h => h
 | _ :: ps, _, ⟨c0, c1, c2, c3, c4, r, h1, h2, h3⟩ => ⟨c0, c1, c2, c3, c4, r, h1, TmIn.keep hb hB _ _ h2, FlatM.keep hb hB ps r h3⟩
theorem FlatP.snoc {B : Nat → Prop} {w : World} {p : Pt} {c0 c1 c2 c3 : Value} (hp : PtIn B w p (.agg #[c0, c1, c2, c3])) : ∀ (ps : List Pt) (cs : List Value), FlatP B w ps cs → FlatP B w (ps ++ [p]) (cs ++ [c0, c1, c2, c3])
 | [], _, h => by cases h; exact ⟨c0, c1, c2, c3, [], rfl, hp, rfl⟩
 | _ :: ps, _, ⟨d0, d1, d2, d3, r, h1, h2, h3⟩ => ⟨d0, d1, d2, d3, r ++ [c0, c1, c2, c3], by rw [h1]; rfl, h2, FlatP.snoc hp ps r h3⟩
theorem FlatM.snoc {B : Nat → Prop} {w : World} {p : Tm} {c0 c1 c2 c3 c4 : Value} (hp : TmIn B w p (.agg #[c0, c1, c2, c3, c4])) : ∀ (ps : List Tm) (cs : List Value), FlatM B w ps cs → FlatM B w (ps ++ [p]) (cs ++ [c0, c1, c2, c3, c4])
 | [], _, h => by cases h; exact ⟨c0, c1, c2, c3, c4, [], rfl, hp, rfl⟩
 | _ :: ps, _, ⟨d0, d1, d2, d3, d4, r, h1, h2, h3⟩ => ⟨d0, d1, d2, d3, d4, r ++ [c0, c1, c2, c3, c4], by rw [h1]; rfl, h2, FlatM.snoc hp ps r h3⟩
theorem FlatP.ptsIn {B : Nat → Prop} {w : World} {b : Nat} : ∀ (ps : List Pt) (cs : List Value) (o : Nat), FlatP B w ps cs → (∀ i u, cs[i]? = some u → w.cell? ⟨b, o + i, none⟩ = some u) → PtsIn B w ps b o
 | [], _, _, _, _ => by unfold PtsIn; trivial
 | p :: ps, _, o, ⟨c0, c1, c2, c3, r, h1, h2, h3⟩, hc => by
  subst h1
  unfold PtsIn
  refine ⟨⟨c0, c1, c2, c3, hc 0 c0 rfl, hc 1 c1 rfl, hc 2 c2 rfl, hc 3 c3 rfl, h2⟩, FlatP.ptsIn ps r (o + 4) h3 fun i u hi => ?_⟩
  rw [Nat.add_assoc, Nat.add_comm 4 i]; exact hc (i + 4) u hi
theorem FlatM.tmsIn {B : Nat → Prop} {w : World} {b : Nat} : ∀ (ps : List Tm) (cs : List Value) (o : Nat), FlatM B w ps cs → (∀ i u, cs[i]? = some u → w.cell? ⟨b, o + i, none⟩ = some u) → TmsIn B w ps b o
 | [], _, _, _, _ => by unfold TmsIn; trivial
 | p :: ps, _, o, ⟨c0, c1, c2, c3, c4, r, h1, h2, h3⟩, hc => by
  subst h1
  unfold TmsIn
  refine ⟨⟨c0, c1, c2, c3, c4, hc 0 c0 rfl, hc 1 c1 rfl, hc 2 c2 rfl, hc 3 c3 rfl, hc 4 c4 rfl, h2⟩, FlatM.tmsIn ps r (o + 5) h3 fun i u hi => ?_⟩
  rw [Nat.add_assoc, Nat.add_comm 5 i]; exact hc (i + 5) u hi
theorem owned_sl {w : World} {base : Nat} {e : TypeId} {size : Nat} {v : Value} {n : Nat} {xs : List Value} {B : Nat → Prop} {R : Nat → Nat → Prop} (h : w.ownsRow base e size v n xs) (hB : ∀ b, v.ownBlock = some b → B b)
  (hR : ∀ b, v.ownBlock = some b → (∀ i u, xs[i]? = some u → w.cell? ⟨b, 0 + i, none⟩ = some u) → R b 0) : SlIn B v n R := by
 rcases h.2 with ⟨h1, h2⟩ | ⟨g, cap, cur, rfl, hg, hh, hn, hm, hs, ht⟩
 ·exact .inl ⟨h2, h1⟩
 ·refine .inr ⟨g, 0, cap, rfl, hn, hm, hB g rfl, hR g rfl fun i u hi => ?_⟩
  rw [Nat.zero_add]
  have hi' : i < xs.length := (List.getElem?_eq_some_iff.1 hi).1
  rw [cell_box hh]
  rw [← ht] at hi
  rw [List.getElem?_take] at hi
  split at hi
  ·simpa using hi
  ·cases hi
attribute [local go_sem] Oper.semAt_some
end Go.Proofs.YtjpahjfjpkbcnaaGreat
namespace Go.Proofs.YtjpahjfjpkbcnaaGreat
open Go.Proofs Go.RowKit
mutual
def partsM (d : Int) : Tm → List (Int × Tm)
 | .mk op n text kids pats => (d, .mk op n text kids pats) :: partssM (d + 1) kids
def partssM (d : Int) : List Tm → List (Int × Tm)
 | [] => []
 | t :: ts => partsM d t ++ partssM d ts
end
mutual
theorem segM_map (w : World) : ∀ (T : Tm) (d : Int) (v : Value), (segM w d T v).map (fun x => (x.d, x.T)) = partsM d T
 | .mk op n text kids pats, d, v => by unfold segM partsM; simp [segsM_map w kids]
theorem segsM_map (w : World) : ∀ (ts : List Tm) (d : Int) (b o : Nat), (segsM w d ts b o).map (fun x => (x.d, x.T)) = partssM d ts
 | [], _, _, _ => by simp [segsM, partssM]
 | t :: ts, d, b, o => by unfold segsM partssM; simp [segM_map w t, segsM_map w ts]
end
mutual
theorem segM_at {n₀ : Nat} {w : World} : ∀ (T : Tm) (v : Value) (d : Int), TmAt n₀ w T v → ∀ x ∈ segM w d T v, TmAt n₀ w x.T x.v
 | .mk op n text kids pats, v, d, h, x, hx => by
  unfold segM at hx
  rcases List.mem_cons.1 hx with rfl | hx
  ·exact h
  ·unfold TmAt at h
   obtain ⟨kv, pv, rfl, h2, h3, h4⟩ := h
   rcases h3 with ⟨hn, _, _, rfl, _⟩ | ⟨b, o, cap, rfl, _, _, _, h5⟩
   ·cases kids with
    | nil => simp [segsM] at hx
    | cons t ts => simp at hn
   ·exact segsM_at kids _ b o h5 x (by simpa [fieldOf, baseOf] using hx)
theorem segsM_at {n₀ : Nat} {w : World} : ∀ (ts : List Tm) (d : Int) (b o : Nat), TmsAt n₀ w ts b o → ∀ x ∈ segsM w d ts b o, TmAt n₀ w x.T x.v
 | [], _, _, _, _, x, hx => by simp [segsM] at hx
 | t :: ts, d, b, o, h, x, hx => by
  unfold segsM at hx
  unfold TmsAt at h
  obtain ⟨⟨c0, c1, c2, c3, c4, g0, g1, g2, g3, g4, hp⟩, hs⟩ := h
  rcases List.mem_append.1 hx with hx | hx
  ·exact segM_at t _ d (by simpa [cellAt, g0, g1, g2, g3, g4] using hp) x hx
  ·exact segsM_at ts d b (o + 5) hs x hx
end
mutual
def partsP (d : Int) : Pt → List (Int × Pt)
 | .mk op n text kids => (d, .mk op n text kids) :: partssP (d + 1) kids
def partssP (d : Int) : List Pt → List (Int × Pt)
 | [] => []
 | t :: ts => partsP d t ++ partssP d ts
end
mutual
theorem segP_map (w : World) : ∀ (T : Pt) (d : Int) (v : Value), (segP w d T v).map (fun x => (x.d, x.T)) = partsP d T
 | .mk op n text kids, d, v => by unfold segP partsP; simp [segsP_map w kids]
theorem segsP_map (w : World) : ∀ (ts : List Pt) (d : Int) (b o : Nat), (segsP w d ts b o).map (fun x => (x.d, x.T)) = partssP d ts
 | [], _, _, _ => by simp [segsP, partssP]
 | t :: ts, d, b, o => by unfold segsP partssP; simp [segP_map w t, segsP_map w ts]
end
mutual
theorem segP_at {n₀ : Nat} {w : World} : ∀ (T : Pt) (v : Value) (d : Int), PtAt n₀ w T v → ∀ x ∈ segP w d T v, PtAt n₀ w x.T x.v
 | .mk op n text kids, v, d, h, x, hx => by
  unfold segP at hx
  rcases List.mem_cons.1 hx with rfl | hx
  ·exact h
  ·unfold PtAt at h
   obtain ⟨kv, rfl, h2, h3⟩ := h
   rcases h3 with ⟨hn, _, _, rfl, _⟩ | ⟨b, o, cap, rfl, _, _, _, h5⟩
   ·cases kids with
    | nil => simp [segsP] at hx
    | cons t ts => simp at hn
   ·exact segsP_at kids _ b o h5 x (by simpa [fieldOf, baseOf] using hx)
theorem segsP_at {n₀ : Nat} {w : World} : ∀ (ts : List Pt) (d : Int) (b o : Nat), PtsAt n₀ w ts b o → ∀ x ∈ segsP w d ts b o, PtAt n₀ w x.T x.v
 | [], _, _, _, _, x, hx => by simp [segsP] at hx
 | t :: ts, d, b, o, h, x, hx => by
  unfold segsP at hx
  unfold PtsAt at h
  obtain ⟨⟨c0, c1, c2, c3, g0, g1, g2, g3, hp⟩, hs⟩ := h
  rcases List.mem_append.1 hx with hx | hx
  ·exact segP_at t _ d (by simpa [cellAt, g0, g1, g2, g3] using hp) x hx
  ·exact segsP_at ts d b (o + 4) hs x hx
end
end Go.Proofs.YtjpahjfjpkbcnaaGreat
