"""Programs whose loops say how often."""
